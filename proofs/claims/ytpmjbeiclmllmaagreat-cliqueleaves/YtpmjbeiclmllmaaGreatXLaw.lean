/-
  CliqueLeaves: the walk.
-/
import Derived.Test.YtpmjbeiclmllmaaGreatXLfc
import Derived.Test.YtpmjbeiclmllmaaGreatXRb
import Derived.Test.YtpmjbeiclmllmaaGreatXRa
import Derived.Test.YtpmjbeiclmllmaaGreatXCec
namespace Go.Proofs.YtpmjbeiclmllmaaGreat
open Go.RowKit
theorem any_cast {P : Program} {md : Region.Mode} {ops : Array Oper} {Q : Exit → Act → World → Prop} {S : World → Prop} {n n' : Nat} {L L' : Array Bool} {a : Act} {w : World} (hL : L = L') (hn : n = n') (h : wpAnyH P md ops Q S n' L' a w) : wpAnyH P md ops Q S n L a w := by
  subst hL
  subst hn
  exact h
theorem any_gen {P : Program} {md : Region.Mode} {ops : Array Oper} {Q : Exit → Act → World → Prop} {S : World → Prop} {n : Nat} {L : Array Bool} {t : Array Value} {d : List Deferred} {w : World} (h : ∀ G : Nat → Array Bool → Array Value → World → Prop, (∀ n L t w, G n L t w ↔ wpAnyH P md ops Q S n L ⟨t, d⟩ w) → G n L t w) : wpAnyH P md ops Q S n L ⟨t, d⟩ w :=
  h (fun n L t w => wpAnyH P md ops Q S n L ⟨t, d⟩ w) (fun _ _ _ _ => Iff.rfl)
theorem grown_block {w w' : World} {b B : Nat} {e t : TypeId} {size : Nat} {v : Value} {n : Nat} {xs : List Value} {cs : Array Value} (hb : w.heap[b]? = some (.cells cs t)) (h : w.ownsRow B e size v n xs) (hne : e ≠ t) (hg : w.grownBy w' v.ownBlock) : w'.heap[b]? = w.heap[b]? := by
  refine hg.block b (lt_of_block hb) (fun h2 => ?_)
  rcases h.2 with ⟨rfl, _⟩ | ⟨g, c, cur, rfl, _, hg1, _⟩
  · cases h2
  · have e1 : b = g := Option.some.inj h2
    subst e1
    rw [hb] at hg1
    injection hg1 with h5
    injection h5 with h6 h7 h8
    exact hne h7.symm
theorem tls_fin {W0 w : World} {bg bn g c : Nat} {xa : Option Addr} {xc : Nat} {ya : Option Addr} {Y : List Cl} {yc : Nat} {N : Int} {l : List A} {bs : List Int} {C : List Cl} (hb : Below W0.heap.size W0 w) (hg : w.heap[bg]? = some (.cells #[.int .i64 N, .slice (some ⟨g, 0, none⟩) l.length c] 24)) (hn : w.heap[bn]? = some (.cells #[.slice xa bs.length xc, .slice ya C.length yc] 28)) (hG : (l.length < c ∧ c ≤ 9223372036854775807) ∧ ∃ B, w.ownsRow B 68 3 (.slice (some ⟨g, 0, none⟩) (l.length + 1) c) (l.length + 1) (cellsA (l ++ [A.mark]))) (hC : ∃ B, CpO w B xa bs xc ya Y C yc) (hCb : ∀ j, j < C.length → (cl C j).xs.length ≤ 9223372036854775807) : TlS W0 w bg bn g c xa xc ya Y yc N l bs C := by
  obtain ⟨B, hc⟩ := hC
  obtain ⟨⟨h1, h2⟩, B2, ho⟩ := hG
  obtain ⟨r1, r2⟩ := hc.rws hCb
  exact ⟨hb, hg, hn, still_own ho, h1, h2, ints_own hc.1, r1, r2, hc.2.2.1⟩
theorem own_lt {w : World} {B : Nat} {e : TypeId} {size : Nat} {v : Value} {n : Nat} {xs : List Value} {b : Nat} (h : w.ownsRow B e size v n xs) (hb : v.ownBlock = some b) : b < w.heap.size := (h.lt b hb).2
theorem fiveQ_cells {w : World} {g : Nat} {a b c d e : Value} {t : TypeId} (h : w.heap[g]? = some (.cells #[a, b, c, d, e] t)) : w.cell? ⟨g, 0, none⟩ = some a ∧ w.cell? ⟨g, 1, none⟩ = some b ∧ w.cell? ⟨g, 2, none⟩ = some c ∧ w.cell? ⟨g, 3, none⟩ = some d := by
  simp [World.cell?, h]
set_option maxRecDepth 100000 in
set_option maxHeartbeats 6400000 in
theorem leaves_any (N : Int) (a : Option Addr) (l : List A) (cap : Nat) (ba : Option Addr) (bs : List Int) (bc : Nat) (ca : Option Addr) (C : List Cl) (cc : Nat) (lv ce ep : Int) (wa : Option Addr) (ws : List Int) (wk : Nat) (x : Value) (w : World) (hlen : l.length * 24 ≤ 140737488351232) (hblen : bs.length * 8 ≤ 140737488351232) (hna : a = none → l = [] ∧ cap = 0) (hnb : ba = none → bs = [] ∧ bc = 0) (hRB : RwB C) (hwt : ∀ x ∈ l, 0 ≤ x.w ∧ x.w < 4294967296) (hnw : wa = none → ws = [] ∧ wk = 0) (hw4 : ws.length * 4 ≤ 140737488351232) (hws : ∀ i, i < ws.length → 0 ≤ ws.getD i 0 ∧ ws.getD i 0 < 4294967296) (hr : Arcs w a l) (hi : Ints w ba bs) (hR : Rws w ca C) (hW : Wts w wa ws) :
    Calls Tryz.prog 3 #[.agg #[.int .i64 N, .slice a l.length cap], .agg #[.slice ba bs.length bc, .slice ca C.length cc], .agg #[.int .i64 lv, .int .i64 ce, .int .i64 ep, .slice wa ws.length wk, x]] w fun e w' => e = .returned (.bool true) ∧ Below w.heap.size w w' := by
  have hl : l.length ≤ 9223372036854775807 := by omega
  have hbl : bs.length ≤ 9223372036854775807 := by omega
  obtain ⟨hg0, hg1, hg2, hb0, hsz⟩ := top3 w (.cells #[.int .i64 N, .slice a l.length cap] 24) (.cells #[.slice ba bs.length bc, .slice ca C.length cc] 28) (.cells #[.int .i64 lv, .int .i64 ce, .int .i64 ep, .slice wa ws.length wk, x] 32)
  have HGN0 : Hid (GN (((w.alloc (.cells #[.int .i64 N, .slice a l.length cap] 24)).alloc (.cells #[.slice ba bs.length bc, .slice ca C.length cc] 28)).alloc (.cells #[.int .i64 lv, .int .i64 ce, .int .i64 ep, .slice wa ws.length wk, x] 32)) w.heap.size N a l cap ba bs bc ca C cc) := ⟨hg0, hg1, hr.on hb0, hi.on hb0, hR.on hb0⟩
  have HID0 : Hid (Wts (((w.alloc (.cells #[.int .i64 N, .slice a l.length cap] 24)).alloc (.cells #[.slice ba bs.length bc, .slice ca C.length cc] 28)).alloc (.cells #[.int .i64 lv, .int .i64 ce, .int .i64 ep, .slice wa ws.length wk, x] 32)) wa ws) := hW.on hb0
  have HB0 := Lib.hid hb0
  have HG2 := Lib.hid hg2
  have HNA := Lib.hid hna
  have HNB := Lib.hid hnb
  have HND := Lib.hid hnw
  have HRB := Lib.hid hRB
  have HWT := Lib.hid hwt
  have HWS := Lib.hid hws
  obtain ⟨i54, hi54, hz54, hs54, hby54⟩ := info_parts info54
  generalize hp : w.heap.size = p at *
  obtain ⟨g0, g1, g2, g3⟩ := HGN0.out.cells
  go_enter Tryz.func3, Tryz.ntmps3
  go_wp2_with fail
  generalize hWW : (((w.alloc (.cells #[.int .i64 N, .slice a l.length cap] 24)).alloc (.cells #[.slice ba bs.length bc, .slice ca C.length cc] 28)).alloc (.cells #[.int .i64 lv, .int .i64 ce, .int .i64 ep, .slice wa ws.length wk, x] 32)) = W at *
  clear hWW hg0 hg1 hg2 hb0 hr hi hR hna hnb hRB hnw hW hwt hws
  refine (large3_any N a l cap W hl HGN0.out.arcs).mono ?_
  rintro e w1 ⟨rfl, hb1⟩
  have HB1 := Lib.hid hb1
  have HEND : Hid (∀ wr, Below W.heap.size W wr → Below p w wr) := fun wr h => HB0.out.trans (h.mono (by omega))
  clear hb1 g0 g1 g2 g3
  obtain ⟨V, HV⟩ := named (lgB N l)
  rw [HV.out]
  rcases V with _ | _
  rotate_left
  · go_wp2_with fail
    refine (works13_any w1).mono ?_
    rintro e w2 ⟨rfl, hb2⟩
    have HB2 : Hid (Below W.heap.size W w2) := HB1.out.trans (hb2.mono HB1.out.size)
    clear hb2
    go_wp2_with fail
    go_ret
    exact ⟨rfl, HEND.out _ HB2.out⟩
  have HGN1 := Lib.hid (HGN0.out.on HB1.out)
  have HID1 := Lib.hid (HID0.out.on HB1.out)
  have hg21 := (HB1.out.block _ (lt_of_block HG2.out)).trans HG2.out
  have HG21 := Lib.hid hg21
  clear hg21
  generalize hW0 : w1 = W0 at *
  clear hW0
  have HLG : Hid (∀ W2, Below W0.heap.size W0 W2 → Calls Tryz.prog 8 #[.agg #[.int .i64 N, .slice a l.length cap]] W2 fun e w' => Lent W2 w' e N l) := fun W2 hb => lend_any N a l cap W2 hlen HNA.out (HGN1.out.on hb).arcs
  have HCN : Hid (∀ W2, Below W0.heap.size W0 W2 → Calls Tryz.prog 9 #[.agg #[.slice ba bs.length bc, .slice ca C.length cc]] W2 fun e w' => CpI W2 w' e bs C) := fun W2 hb => copyNest_any ba bs bc ca C cc W2 hblen HNB.out (HGN1.out.on hb).ints (HGN1.out.on hb).rws HRB.out
  have HWTS : Hid (∀ W2, Below W0.heap.size W0 W2 → Wts W2 wa ws) := fun W2 hb => HID1.out.on hb
  have HSS : Hid (∀ w' : World, Below W0.heap.size W0 w' → w'.cell? ⟨p, 0, none⟩ = some (.int .i64 N) ∧ w'.cell? ⟨p, 1, none⟩ = some (.slice a l.length cap) ∧ w'.cell? ⟨p + 1, 0, none⟩ = some (.slice ba bs.length bc) ∧ w'.cell? ⟨p + 1, 1, none⟩ = some (.slice ca C.length cc) ∧ w'.cell? ⟨p + 1 + 1, 3, none⟩ = some (.slice wa ws.length wk)) := fun W2 hb => ⟨(HGN1.out.on hb).cells.1, (HGN1.out.on hb).cells.2.1, (HGN1.out.on hb).cells.2.2.1, (HGN1.out.on hb).cells.2.2.2, (fiveQ_cells ((hb.block _ (lt_of_block HG21.out)).trans HG21.out)).2.2.2⟩
  have HCB : Hid (∀ j, j < C.length → (cl C j).xs.length ≤ 9223372036854775807) := fun j hj => (HGN1.out.rws.2 j hj).2
  have HB00 : Hid (Below W0.heap.size W0 W0.drew) := (Below.refl _ _).drew
  obtain ⟨g0, g1, g2, g3, g4⟩ := HSS.out _ (Below.refl _ _)
  go_wp2_with fail
  go_cut [7, 8, 9] (fun s7 s8 s9 wc => ∃ (bg bn g c : Nat) (xa : Option Addr) (xc : Nat) (ya : Option Addr) (Y : List Cl) (yc gi ci : Nat), s7 = .pointer (some ⟨bg, 0, none⟩) ∧ s8 = .pointer (some ⟨bn, 0, none⟩) ∧ s9 = .slice (some ⟨gi, 0, none⟩) ws.length ci ∧ Hid (TlS W0 wc bg bn g c xa xc ya Y yc N l bs C) ∧ Hid (Wts wc (some ⟨gi, 0, none⟩) ws))
  case first =>
    refine wp_region_held_drew (S := fun w' => w'.cell? ⟨p, 0, none⟩ = some (.int .i64 N) ∧ w'.cell? ⟨p, 1, none⟩ = some (.slice a l.length cap) ∧ w'.cell? ⟨p + 1, 0, none⟩ = some (.slice ba bs.length bc) ∧ w'.cell? ⟨p + 1, 1, none⟩ = some (.slice ca C.length cc) ∧ w'.cell? ⟨p + 1 + 1, 3, none⟩ = some (.slice wa ws.length wk)) (by kernel_rfl) (HSS.out _ HB00.out) ?_
    intro hS0
    generalize W0.drew = Wd at *
    simp only [List.size_toArray, List.length_cons, List.length_nil]
    refine wpAnyH_take (i := 0) (v := ?_) rfl (by kernel_rfl) (by decide +kernel) (by decide +kernel) (fun _ _ _ h => h) (Or.inl ⟨by rfl, ?_⟩) (by assumption) ?_
    rotate_left
    · intro w hSw
      (try dsimp only at hSw)
      go_simp
      (try with_reducible rfl)
    try simp only [Act.put, List.getElem_toArray, List.getElem_cons_zero, List.setIfInBounds_toArray, List.set_cons_zero, List.set_cons_succ]
    refine wpAnyH_take (i := 2) (v := ?_) rfl (by kernel_rfl) (by decide +kernel) (by decide +kernel) (fun _ _ _ h => h) (Or.inl ⟨by rfl, ?_⟩) (by assumption) ?_
    rotate_left
    · intro w hSw
      (try dsimp only at hSw)
      go_simp
      (try with_reducible rfl)
    try simp only [Act.put, List.getElem_toArray, List.getElem_cons_zero, List.getElem_cons_succ, List.setIfInBounds_toArray, List.set_cons_zero, List.set_cons_succ]
    refine wpAnyH_take (i := 5) (v := ?_) rfl (by kernel_rfl) (by decide +kernel) (by decide +kernel) (fun _ _ _ h => h) (Or.inl ⟨by rfl, ?_⟩) (by assumption) ?_
    rotate_left
    · intro w hSw
      (try dsimp only at hSw)
      go_simp
      (try with_reducible rfl)
    try simp only [Act.put, List.getElem_toArray, List.getElem_cons_zero, List.getElem_cons_succ, List.setIfInBounds_toArray, List.set_cons_zero, List.set_cons_succ]
    refine wpAnyH_take (i := 6) (v := ?_) rfl (by kernel_rfl) (by decide +kernel) (by decide +kernel) (fun _ _ _ h => h) (Or.inl ⟨by rfl, ?_⟩) (by assumption) ?_
    rotate_left
    · intro w hSw
      (try dsimp only at hSw)
      go_simp
      (try with_reducible rfl)
    try simp only [Act.put, List.getElem_toArray, List.getElem_cons_zero, List.getElem_cons_succ, List.setIfInBounds_toArray, List.set_cons_zero, List.set_cons_succ]
    refine any_cast (L' := #[true, false, true, false, false, true, true, false, false, false, false, false, false]) (n' := 9) (by kernel_rfl) (by rfl) ?_
    refine any_gen (fun G hG => ?_)
    clear hS0
    have H31112 : ∀ (g c : Nat) (xa : Option Addr) (xc : Nat) (ya : Option Addr) (Y : List Cl) (yc : Nat) (b4 : Nat) (gi ci : Nat) (bg : Nat) (bn : Nat) (w : World), Hid (Below W0.heap.size W0 w) → Hid ((l.length < c ∧ c ≤ 9223372036854775807) ∧ ∃ B, w.ownsRow B 68 3 (.slice (some ⟨g, 0, none⟩) (l.length + 1) c) (l.length + 1) (cellsA (l ++ [A.mark]))) → Hid (∃ B, CpO w B xa bs xc ya Y C yc) → Hid (w.ownsRow W0.heap.size 66 1 (.slice (some ⟨gi, 0, none⟩) ws.length ci) ws.length (cellsW ws)) → Hid (w.heap[bg]? = some (.cells #[.int .i64 N, .slice (some ⟨g, 0, none⟩) l.length c] 24) ∧ W0.heap.size ≤ bg) → Hid (w.heap[bn]? = some (.cells #[.slice xa bs.length xc, .slice ya C.length yc] 28) ∧ W0.heap.size ≤ bn) → Hid (bg ≠ bn) → G 1 #[true, true, true, true, true, true, true, true, true, true, true, true, false] #[.agg #[.int .i64 N, .slice a l.length cap], .agg #[.slice ba bs.length bc, .slice ca C.length cc], .agg #[.int .i64 lv, .int .i64 ce, .int .i64 ep, .slice wa ws.length wk, x], .pointer (some ⟨p, 0, none⟩), .pointer (some ⟨p + 1, 0, none⟩), .pointer (some ⟨p + 1 + 1, 0, none⟩), .bool false, .pointer (some ⟨bg, 0, none⟩), .pointer (some ⟨bn, 0, none⟩), undef, undef, undef, undef, undef, undef, undef, undef, undef, .agg #[.int .i64 N, .slice a l.length cap], .bool false, undef, .agg #[.int .i64 N, .slice a l.length cap], .agg #[.int .i64 N, .slice (some ⟨g, 0, none⟩) l.length c], .agg #[.slice ba bs.length bc, .slice ca C.length cc], .agg #[.slice xa bs.length xc, .slice ya C.length yc], .slice (some ⟨b4, 0, none⟩) 0 0, .pointer (some ⟨p + 1 + 1, 3, none⟩), .slice wa ws.length wk, .slice (some ⟨gi, 0, none⟩) ws.length ci, undef, undef, undef, undef, undef, undef, undef, undef, undef, undef, undef, undef, undef, undef, undef, undef, undef, undef, undef, undef, undef, undef, undef, undef, undef, undef, undef, undef, undef, undef, undef, undef, undef, undef, undef, undef, undef, undef, undef, undef, undef, undef, undef, undef, undef, undef, undef, undef, undef, undef, undef, undef, undef, undef, undef, undef, undef, undef, undef, undef, undef, undef, undef, undef, undef, undef, undef, undef, undef, undef, undef, undef, undef, undef, undef, undef, undef, undef, undef, undef, undef, undef, undef, undef, undef, undef, undef, undef, undef, undef] w := by
      intro g c xa xc ya Y yc b4 gi ci bg bn w HB HG HC HW H8 H9 HNE
      refine (hG _ _ _ _).2 ?_
      refine wpAnyH_ready (rs := [12]) (by kernel_rfl) (by simp) ?_
      refine AllReadyH.cons rfl (fun K hK => ?_) (AllReadyH.nil)
      · skip
        go_simp
        refine hK.out _ _ (HSS.out _ HB.out) (fun _ => ?_)
        clear hK K
        try simp only [List.setIfInBounds_toArray, List.set_cons_zero, List.set_cons_succ]
        have HTL := Lib.hid (tls_fin HB.out H8.out.1 H9.out.1 HG.out HC.out HCB.out)
        have HTI := Lib.hid (wts_own HW.out)
        refine wpAnyH_done (by kernel_rfl) ?_ _
        go_wp2_with fail
        go_meet
        case rel => exact ⟨bg, bn, g, c, xa, xc, ya, Y, yc, gi, ci, rfl, rfl, rfl, HTL, HTI⟩
    have H31111 : ∀ (g c : Nat) (xa : Option Addr) (xc : Nat) (ya : Option Addr) (Y : List Cl) (yc : Nat) (b4 : Nat) (gi ci : Nat) (bg : Nat) (bn : Nat) (w : World), Hid (Below W0.heap.size W0 w) → Hid ((l.length < c ∧ c ≤ 9223372036854775807) ∧ ∃ B, w.ownsRow B 68 3 (.slice (some ⟨g, 0, none⟩) (l.length + 1) c) (l.length + 1) (cellsA (l ++ [A.mark]))) → Hid (∃ B, CpO w B xa bs xc ya Y C yc) → Hid (w.ownsRow W0.heap.size 66 1 (.slice (some ⟨gi, 0, none⟩) ws.length ci) ws.length (cellsW ws)) → Hid (w.heap[bg]? = some (.cells #[.int .i64 N, .slice (some ⟨g, 0, none⟩) l.length c] 24) ∧ W0.heap.size ≤ bg) → Hid (w.heap[bn]? = some (.cells #[.slice none 0 0, .slice none 0 0] 28) ∧ W0.heap.size ≤ bn) → Hid (bg ≠ bn) → G 2 #[true, true, true, true, true, true, true, true, true, true, true, false, false] #[.agg #[.int .i64 N, .slice a l.length cap], .agg #[.slice ba bs.length bc, .slice ca C.length cc], .agg #[.int .i64 lv, .int .i64 ce, .int .i64 ep, .slice wa ws.length wk, x], .pointer (some ⟨p, 0, none⟩), .pointer (some ⟨p + 1, 0, none⟩), .pointer (some ⟨p + 1 + 1, 0, none⟩), .bool false, .pointer (some ⟨bg, 0, none⟩), .pointer (some ⟨bn, 0, none⟩), undef, undef, undef, undef, undef, undef, undef, undef, undef, .agg #[.int .i64 N, .slice a l.length cap], .bool false, undef, .agg #[.int .i64 N, .slice a l.length cap], .agg #[.int .i64 N, .slice (some ⟨g, 0, none⟩) l.length c], .agg #[.slice ba bs.length bc, .slice ca C.length cc], .agg #[.slice xa bs.length xc, .slice ya C.length yc], .slice (some ⟨b4, 0, none⟩) 0 0, .pointer (some ⟨p + 1 + 1, 3, none⟩), .slice wa ws.length wk, .slice (some ⟨gi, 0, none⟩) ws.length ci, undef, undef, undef, undef, undef, undef, undef, undef, undef, undef, undef, undef, undef, undef, undef, undef, undef, undef, undef, undef, undef, undef, undef, undef, undef, undef, undef, undef, undef, undef, undef, undef, undef, undef, undef, undef, undef, undef, undef, undef, undef, undef, undef, undef, undef, undef, undef, undef, undef, undef, undef, undef, undef, undef, undef, undef, undef, undef, undef, undef, undef, undef, undef, undef, undef, undef, undef, undef, undef, undef, undef, undef, undef, undef, undef, undef, undef, undef, undef, undef, undef, undef, undef, undef, undef, undef, undef, undef, undef, undef] w := by
      intro g c xa xc ya Y yc b4 gi ci bg bn w HB HG HC HW H8 H9 HNE
      refine (hG _ _ _ _).2 ?_
      refine wpAnyH_ready (rs := [11]) (by kernel_rfl) (by simp) ?_
      refine AllReadyH.cons rfl (fun K hK => ?_) (AllReadyH.nil)
      · skip
        obtain ⟨⟨z0, z1⟩, zf0, zf1⟩ := two_cells H9.out.1
        have hy1 := heap_setCell_same w bn 0 _ _ (.slice xa bs.length xc) H9.out.1
        have hy2 := heap_setCell_same _ bn 1 _ _ (.slice ya C.length yc) hy1
        go_simp
        have NB : Hid (Below W0.heap.size W0 ((w.setCell ⟨bn, 0, none⟩ (.slice xa bs.length xc)).setCell ⟨bn, 1, none⟩ (.slice ya C.length yc))) := (HB.out.setCell (p := ⟨bn, 0, none⟩) H9.out.2 _).setCell (p := ⟨bn, 1, none⟩) H9.out.2 _
        have N9 : Hid (((w.setCell ⟨bn, 0, none⟩ (.slice xa bs.length xc)).setCell ⟨bn, 1, none⟩ (.slice ya C.length yc)).heap[bn]? = some (.cells #[.slice xa bs.length xc, .slice ya C.length yc] 28) ∧ W0.heap.size ≤ bn) := ⟨hy2.trans (by simp), H9.out.2⟩
        have N8 : Hid (((w.setCell ⟨bn, 0, none⟩ (.slice xa bs.length xc)).setCell ⟨bn, 1, none⟩ (.slice ya C.length yc)).heap[bg]? = some (.cells #[.int .i64 N, .slice (some ⟨g, 0, none⟩) l.length c] 24) ∧ W0.heap.size ≤ bg) := ⟨(Below.heap_setCell _ ⟨bn, 1, none⟩ _ bg HNE.out).trans ((Below.heap_setCell _ ⟨bn, 0, none⟩ _ bg HNE.out).trans H8.out.1), H8.out.2⟩
        have NG : Hid ((l.length < c ∧ c ≤ 9223372036854775807) ∧ ∃ B, ((w.setCell ⟨bn, 0, none⟩ (.slice xa bs.length xc)).setCell ⟨bn, 1, none⟩ (.slice ya C.length yc)).ownsRow B 68 3 (.slice (some ⟨g, 0, none⟩) (l.length + 1) c) (l.length + 1) (cellsA (l ++ [A.mark]))) := ⟨HG.out.1, HG.out.2.imp (fun _ h => own_typed (own_typed h H9.out.1 (by decide) (.slice xa bs.length xc)) hy1 (by decide) (.slice ya C.length yc))⟩
        have NC : Hid (∃ B, CpO ((w.setCell ⟨bn, 0, none⟩ (.slice xa bs.length xc)).setCell ⟨bn, 1, none⟩ (.slice ya C.length yc)) B xa bs xc ya Y C yc) := HC.out.imp (fun _ h => (h.far (i := 0) H9.out.1 (by decide) (by decide) (.slice xa bs.length xc)).far (i := 1) hy1 (by decide) (by decide) (.slice ya C.length yc))
        have NW : Hid (((w.setCell ⟨bn, 0, none⟩ (.slice xa bs.length xc)).setCell ⟨bn, 1, none⟩ (.slice ya C.length yc)).ownsRow W0.heap.size 66 1 (.slice (some ⟨gi, 0, none⟩) ws.length ci) ws.length (cellsW ws)) := own_typed (own_typed HW.out H9.out.1 (by decide) (.slice xa bs.length xc)) hy1 (by decide) (.slice ya C.length yc)
        clear hy1 hy2
        refine hK.out _ _ (HSS.out _ NB.out) (fun _ => ?_)
        clear hK K
        try simp only [List.setIfInBounds_toArray, List.set_cons_zero, List.set_cons_succ]
        exact (hG _ _ _ _).1 (H31112 g c xa xc ya Y yc b4 gi ci bg bn _ NB NG NC NW N8 N9 HNE)
    have H31110 : ∀ (g c : Nat) (xa : Option Addr) (xc : Nat) (ya : Option Addr) (Y : List Cl) (yc : Nat) (b4 : Nat) (gi ci : Nat) (bg : Nat) (bn : Nat) (w : World), Hid (Below W0.heap.size W0 w) → Hid ((l.length < c ∧ c ≤ 9223372036854775807) ∧ ∃ B, w.ownsRow B 68 3 (.slice (some ⟨g, 0, none⟩) (l.length + 1) c) (l.length + 1) (cellsA (l ++ [A.mark]))) → Hid (∃ B, CpO w B xa bs xc ya Y C yc) → Hid (w.ownsRow W0.heap.size 66 1 (.slice (some ⟨gi, 0, none⟩) ws.length ci) ws.length (cellsW ws)) → Hid (w.heap[bg]? = some (.cells #[.int .i64 0, .slice none 0 0] 24) ∧ W0.heap.size ≤ bg) → Hid (w.heap[bn]? = some (.cells #[.slice none 0 0, .slice none 0 0] 28) ∧ W0.heap.size ≤ bn) → Hid (bg ≠ bn) → G 3 #[true, true, true, true, true, true, true, true, true, true, false, false, false] #[.agg #[.int .i64 N, .slice a l.length cap], .agg #[.slice ba bs.length bc, .slice ca C.length cc], .agg #[.int .i64 lv, .int .i64 ce, .int .i64 ep, .slice wa ws.length wk, x], .pointer (some ⟨p, 0, none⟩), .pointer (some ⟨p + 1, 0, none⟩), .pointer (some ⟨p + 1 + 1, 0, none⟩), .bool false, .pointer (some ⟨bg, 0, none⟩), .pointer (some ⟨bn, 0, none⟩), undef, undef, undef, undef, undef, undef, undef, undef, undef, .agg #[.int .i64 N, .slice a l.length cap], .bool false, undef, .agg #[.int .i64 N, .slice a l.length cap], .agg #[.int .i64 N, .slice (some ⟨g, 0, none⟩) l.length c], .agg #[.slice ba bs.length bc, .slice ca C.length cc], .agg #[.slice xa bs.length xc, .slice ya C.length yc], .slice (some ⟨b4, 0, none⟩) 0 0, .pointer (some ⟨p + 1 + 1, 3, none⟩), .slice wa ws.length wk, .slice (some ⟨gi, 0, none⟩) ws.length ci, undef, undef, undef, undef, undef, undef, undef, undef, undef, undef, undef, undef, undef, undef, undef, undef, undef, undef, undef, undef, undef, undef, undef, undef, undef, undef, undef, undef, undef, undef, undef, undef, undef, undef, undef, undef, undef, undef, undef, undef, undef, undef, undef, undef, undef, undef, undef, undef, undef, undef, undef, undef, undef, undef, undef, undef, undef, undef, undef, undef, undef, undef, undef, undef, undef, undef, undef, undef, undef, undef, undef, undef, undef, undef, undef, undef, undef, undef, undef, undef, undef, undef, undef, undef, undef, undef, undef, undef, undef, undef] w := by
      intro g c xa xc ya Y yc b4 gi ci bg bn w HB HG HC HW H8 H9 HNE
      refine (hG _ _ _ _).2 ?_
      refine wpAnyH_ready (rs := [10]) (by kernel_rfl) (by simp) ?_
      refine AllReadyH.cons rfl (fun K hK => ?_) (AllReadyH.nil)
      · skip
        obtain ⟨⟨z0, z1⟩, zf0, zf1⟩ := two_cells H8.out.1
        have hy1 := heap_setCell_same w bg 0 _ _ (.int .i64 N) H8.out.1
        have hy2 := heap_setCell_same _ bg 1 _ _ (.slice (some ⟨g, 0, none⟩) l.length c) hy1
        go_simp
        have NB : Hid (Below W0.heap.size W0 ((w.setCell ⟨bg, 0, none⟩ (.int .i64 N)).setCell ⟨bg, 1, none⟩ (.slice (some ⟨g, 0, none⟩) l.length c))) := (HB.out.setCell (p := ⟨bg, 0, none⟩) H8.out.2 _).setCell (p := ⟨bg, 1, none⟩) H8.out.2 _
        have N8 : Hid (((w.setCell ⟨bg, 0, none⟩ (.int .i64 N)).setCell ⟨bg, 1, none⟩ (.slice (some ⟨g, 0, none⟩) l.length c)).heap[bg]? = some (.cells #[.int .i64 N, .slice (some ⟨g, 0, none⟩) l.length c] 24) ∧ W0.heap.size ≤ bg) := ⟨hy2.trans (by simp), H8.out.2⟩
        have N9 : Hid (((w.setCell ⟨bg, 0, none⟩ (.int .i64 N)).setCell ⟨bg, 1, none⟩ (.slice (some ⟨g, 0, none⟩) l.length c)).heap[bn]? = some (.cells #[.slice none 0 0, .slice none 0 0] 28) ∧ W0.heap.size ≤ bn) := ⟨(Below.heap_setCell _ ⟨bg, 1, none⟩ _ bn (fun h => HNE.out h.symm)).trans ((Below.heap_setCell _ ⟨bg, 0, none⟩ _ bn (fun h => HNE.out h.symm)).trans H9.out.1), H9.out.2⟩
        have NG : Hid ((l.length < c ∧ c ≤ 9223372036854775807) ∧ ∃ B, ((w.setCell ⟨bg, 0, none⟩ (.int .i64 N)).setCell ⟨bg, 1, none⟩ (.slice (some ⟨g, 0, none⟩) l.length c)).ownsRow B 68 3 (.slice (some ⟨g, 0, none⟩) (l.length + 1) c) (l.length + 1) (cellsA (l ++ [A.mark]))) := ⟨HG.out.1, HG.out.2.imp (fun _ h => own_typed (own_typed h H8.out.1 (by decide) (.int .i64 N)) hy1 (by decide) (.slice (some ⟨g, 0, none⟩) l.length c))⟩
        have NC : Hid (∃ B, CpO ((w.setCell ⟨bg, 0, none⟩ (.int .i64 N)).setCell ⟨bg, 1, none⟩ (.slice (some ⟨g, 0, none⟩) l.length c)) B xa bs xc ya Y C yc) := HC.out.imp (fun _ h => (h.far (i := 0) H8.out.1 (by decide) (by decide) (.int .i64 N)).far (i := 1) hy1 (by decide) (by decide) (.slice (some ⟨g, 0, none⟩) l.length c))
        have NW : Hid (((w.setCell ⟨bg, 0, none⟩ (.int .i64 N)).setCell ⟨bg, 1, none⟩ (.slice (some ⟨g, 0, none⟩) l.length c)).ownsRow W0.heap.size 66 1 (.slice (some ⟨gi, 0, none⟩) ws.length ci) ws.length (cellsW ws)) := own_typed (own_typed HW.out H8.out.1 (by decide) (.int .i64 N)) hy1 (by decide) (.slice (some ⟨g, 0, none⟩) l.length c)
        clear hy1 hy2
        refine hK.out _ _ (HSS.out _ NB.out) (fun _ => ?_)
        clear hK K
        try simp only [List.setIfInBounds_toArray, List.set_cons_zero, List.set_cons_succ]
        exact (hG _ _ _ _).1 (H31111 g c xa xc ya Y yc b4 gi ci bg bn _ NB NG NC NW N8 N9 HNE)
    have H31100 : ∀ (g c : Nat) (xa : Option Addr) (xc : Nat) (ya : Option Addr) (Y : List Cl) (yc : Nat) (b4 : Nat) (gi ci : Nat) (bg : Nat) (w : World), Hid (Below W0.heap.size W0 w) → Hid ((l.length < c ∧ c ≤ 9223372036854775807) ∧ ∃ B, w.ownsRow B 68 3 (.slice (some ⟨g, 0, none⟩) (l.length + 1) c) (l.length + 1) (cellsA (l ++ [A.mark]))) → Hid (∃ B, CpO w B xa bs xc ya Y C yc) → Hid (w.ownsRow W0.heap.size 66 1 (.slice (some ⟨gi, 0, none⟩) ws.length ci) ws.length (cellsW ws)) → Hid (w.heap[bg]? = some (.cells #[.int .i64 0, .slice none 0 0] 24) ∧ W0.heap.size ≤ bg) → G 4 #[true, true, true, true, true, true, true, true, true, false, false, false, false] #[.agg #[.int .i64 N, .slice a l.length cap], .agg #[.slice ba bs.length bc, .slice ca C.length cc], .agg #[.int .i64 lv, .int .i64 ce, .int .i64 ep, .slice wa ws.length wk, x], .pointer (some ⟨p, 0, none⟩), .pointer (some ⟨p + 1, 0, none⟩), .pointer (some ⟨p + 1 + 1, 0, none⟩), .bool false, .pointer (some ⟨bg, 0, none⟩), undef, undef, undef, undef, undef, undef, undef, undef, undef, undef, .agg #[.int .i64 N, .slice a l.length cap], .bool false, undef, .agg #[.int .i64 N, .slice a l.length cap], .agg #[.int .i64 N, .slice (some ⟨g, 0, none⟩) l.length c], .agg #[.slice ba bs.length bc, .slice ca C.length cc], .agg #[.slice xa bs.length xc, .slice ya C.length yc], .slice (some ⟨b4, 0, none⟩) 0 0, .pointer (some ⟨p + 1 + 1, 3, none⟩), .slice wa ws.length wk, .slice (some ⟨gi, 0, none⟩) ws.length ci, undef, undef, undef, undef, undef, undef, undef, undef, undef, undef, undef, undef, undef, undef, undef, undef, undef, undef, undef, undef, undef, undef, undef, undef, undef, undef, undef, undef, undef, undef, undef, undef, undef, undef, undef, undef, undef, undef, undef, undef, undef, undef, undef, undef, undef, undef, undef, undef, undef, undef, undef, undef, undef, undef, undef, undef, undef, undef, undef, undef, undef, undef, undef, undef, undef, undef, undef, undef, undef, undef, undef, undef, undef, undef, undef, undef, undef, undef, undef, undef, undef, undef, undef, undef, undef, undef, undef, undef, undef, undef] w := by
      intro g c xa xc ya Y yc b4 gi ci bg w HB HG HC HW H8
      refine (hG _ _ _ _).2 ?_
      refine wpAnyH_ready (rs := [9]) (by kernel_rfl) (by simp) ?_
      refine AllReadyH.cons rfl (fun K hK => ?_) (AllReadyH.nil)
      · skip
        go_simp
        have hbn : Below w.heap.size w (w.alloc (.cells #[.slice none 0 0, .slice none 0 0] 28)) := (Below.refl _ _).alloc (Nat.le_refl _) _
        have N9 : Hid ((w.alloc (.cells #[.slice none 0 0, .slice none 0 0] 28)).heap[w.heap.size]? = some (.cells #[.slice none 0 0, .slice none 0 0] 28) ∧ W0.heap.size ≤ w.heap.size) := ⟨heap_top w _, HB.out.size⟩
        have NNE : Hid (bg ≠ w.heap.size) := fun h => by have := lt_of_block H8.out.1; omega
        have NB : Hid (Below W0.heap.size W0 (w.alloc (.cells #[.slice none 0 0, .slice none 0 0] 28))) := HB.out.trans (hbn.mono HB.out.size)
        have NG : Hid ((l.length < c ∧ c ≤ 9223372036854775807) ∧ ∃ B, (w.alloc (.cells #[.slice none 0 0, .slice none 0 0] 28)).ownsRow B 68 3 (.slice (some ⟨g, 0, none⟩) (l.length + 1) c) (l.length + 1) (cellsA (l ++ [A.mark]))) := ⟨HG.out.1, HG.out.2.imp (fun _ h => own_on h hbn)⟩
        have NC : Hid (∃ B, CpO (w.alloc (.cells #[.slice none 0 0, .slice none 0 0] 28)) B xa bs xc ya Y C yc) := HC.out.imp (fun _ h => h.on hbn)
        have NW : Hid ((w.alloc (.cells #[.slice none 0 0, .slice none 0 0] 28)).ownsRow W0.heap.size 66 1 (.slice (some ⟨gi, 0, none⟩) ws.length ci) ws.length (cellsW ws)) := own_on HW.out hbn
        have N8 : Hid ((w.alloc (.cells #[.slice none 0 0, .slice none 0 0] 28)).heap[bg]? = some (.cells #[.int .i64 0, .slice none 0 0] 24) ∧ W0.heap.size ≤ bg) := ⟨(hbn.block _ (lt_of_block H8.out.1)).trans H8.out.1, H8.out.2⟩
        refine hK.out _ _ (HSS.out _ NB.out) (fun _ => ?_)
        clear hK K
        try simp only [List.setIfInBounds_toArray, List.set_cons_zero, List.set_cons_succ]
        exact (hG _ _ _ _).1 (H31110 g c xa xc ya Y yc b4 gi ci bg _ _ NB NG NC NW N8 N9 NNE)
    have H31010 : ∀ (g c : Nat) (xa : Option Addr) (xc : Nat) (ya : Option Addr) (Y : List Cl) (yc : Nat) (b4 : Nat) (gi ci : Nat) (bn : Nat) (w : World), Hid (Below W0.heap.size W0 w) → Hid ((l.length < c ∧ c ≤ 9223372036854775807) ∧ ∃ B, w.ownsRow B 68 3 (.slice (some ⟨g, 0, none⟩) (l.length + 1) c) (l.length + 1) (cellsA (l ++ [A.mark]))) → Hid (∃ B, CpO w B xa bs xc ya Y C yc) → Hid (w.ownsRow W0.heap.size 66 1 (.slice (some ⟨gi, 0, none⟩) ws.length ci) ws.length (cellsW ws)) → Hid (w.heap[bn]? = some (.cells #[.slice none 0 0, .slice none 0 0] 28) ∧ W0.heap.size ≤ bn) → G 4 #[true, true, true, true, true, true, true, true, false, true, false, false, false] #[.agg #[.int .i64 N, .slice a l.length cap], .agg #[.slice ba bs.length bc, .slice ca C.length cc], .agg #[.int .i64 lv, .int .i64 ce, .int .i64 ep, .slice wa ws.length wk, x], .pointer (some ⟨p, 0, none⟩), .pointer (some ⟨p + 1, 0, none⟩), .pointer (some ⟨p + 1 + 1, 0, none⟩), .bool false, undef, .pointer (some ⟨bn, 0, none⟩), undef, undef, undef, undef, undef, undef, undef, undef, undef, .agg #[.int .i64 N, .slice a l.length cap], .bool false, undef, .agg #[.int .i64 N, .slice a l.length cap], .agg #[.int .i64 N, .slice (some ⟨g, 0, none⟩) l.length c], .agg #[.slice ba bs.length bc, .slice ca C.length cc], .agg #[.slice xa bs.length xc, .slice ya C.length yc], .slice (some ⟨b4, 0, none⟩) 0 0, .pointer (some ⟨p + 1 + 1, 3, none⟩), .slice wa ws.length wk, .slice (some ⟨gi, 0, none⟩) ws.length ci, undef, undef, undef, undef, undef, undef, undef, undef, undef, undef, undef, undef, undef, undef, undef, undef, undef, undef, undef, undef, undef, undef, undef, undef, undef, undef, undef, undef, undef, undef, undef, undef, undef, undef, undef, undef, undef, undef, undef, undef, undef, undef, undef, undef, undef, undef, undef, undef, undef, undef, undef, undef, undef, undef, undef, undef, undef, undef, undef, undef, undef, undef, undef, undef, undef, undef, undef, undef, undef, undef, undef, undef, undef, undef, undef, undef, undef, undef, undef, undef, undef, undef, undef, undef, undef, undef, undef, undef, undef, undef] w := by
      intro g c xa xc ya Y yc b4 gi ci bn w HB HG HC HW H9
      refine (hG _ _ _ _).2 ?_
      refine wpAnyH_ready (rs := [8]) (by kernel_rfl) (by simp) ?_
      refine AllReadyH.cons rfl (fun K hK => ?_) (AllReadyH.nil)
      · skip
        go_simp
        have hbn : Below w.heap.size w (w.alloc (.cells #[.int .i64 0, .slice none 0 0] 24)) := (Below.refl _ _).alloc (Nat.le_refl _) _
        have N8 : Hid ((w.alloc (.cells #[.int .i64 0, .slice none 0 0] 24)).heap[w.heap.size]? = some (.cells #[.int .i64 0, .slice none 0 0] 24) ∧ W0.heap.size ≤ w.heap.size) := ⟨heap_top w _, HB.out.size⟩
        have NNE : Hid (w.heap.size ≠ bn) := fun h => by have := lt_of_block H9.out.1; omega
        have NB : Hid (Below W0.heap.size W0 (w.alloc (.cells #[.int .i64 0, .slice none 0 0] 24))) := HB.out.trans (hbn.mono HB.out.size)
        have NG : Hid ((l.length < c ∧ c ≤ 9223372036854775807) ∧ ∃ B, (w.alloc (.cells #[.int .i64 0, .slice none 0 0] 24)).ownsRow B 68 3 (.slice (some ⟨g, 0, none⟩) (l.length + 1) c) (l.length + 1) (cellsA (l ++ [A.mark]))) := ⟨HG.out.1, HG.out.2.imp (fun _ h => own_on h hbn)⟩
        have NC : Hid (∃ B, CpO (w.alloc (.cells #[.int .i64 0, .slice none 0 0] 24)) B xa bs xc ya Y C yc) := HC.out.imp (fun _ h => h.on hbn)
        have NW : Hid ((w.alloc (.cells #[.int .i64 0, .slice none 0 0] 24)).ownsRow W0.heap.size 66 1 (.slice (some ⟨gi, 0, none⟩) ws.length ci) ws.length (cellsW ws)) := own_on HW.out hbn
        have N9 : Hid ((w.alloc (.cells #[.int .i64 0, .slice none 0 0] 24)).heap[bn]? = some (.cells #[.slice none 0 0, .slice none 0 0] 28) ∧ W0.heap.size ≤ bn) := ⟨(hbn.block _ (lt_of_block H9.out.1)).trans H9.out.1, H9.out.2⟩
        refine hK.out _ _ (HSS.out _ NB.out) (fun _ => ?_)
        clear hK K
        try simp only [List.setIfInBounds_toArray, List.set_cons_zero, List.set_cons_succ]
        exact (hG _ _ _ _).1 (H31110 g c xa xc ya Y yc b4 gi ci _ bn _ NB NG NC NW N8 N9 NNE)
    have H31000 : ∀ (g c : Nat) (xa : Option Addr) (xc : Nat) (ya : Option Addr) (Y : List Cl) (yc : Nat) (b4 : Nat) (gi ci : Nat) (w : World), Hid (Below W0.heap.size W0 w) → Hid ((l.length < c ∧ c ≤ 9223372036854775807) ∧ ∃ B, w.ownsRow B 68 3 (.slice (some ⟨g, 0, none⟩) (l.length + 1) c) (l.length + 1) (cellsA (l ++ [A.mark]))) → Hid (∃ B, CpO w B xa bs xc ya Y C yc) → Hid (w.ownsRow W0.heap.size 66 1 (.slice (some ⟨gi, 0, none⟩) ws.length ci) ws.length (cellsW ws)) → G 5 #[true, true, true, true, true, true, true, true, false, false, false, false, false] #[.agg #[.int .i64 N, .slice a l.length cap], .agg #[.slice ba bs.length bc, .slice ca C.length cc], .agg #[.int .i64 lv, .int .i64 ce, .int .i64 ep, .slice wa ws.length wk, x], .pointer (some ⟨p, 0, none⟩), .pointer (some ⟨p + 1, 0, none⟩), .pointer (some ⟨p + 1 + 1, 0, none⟩), .bool false, undef, undef, undef, undef, undef, undef, undef, undef, undef, undef, undef, .agg #[.int .i64 N, .slice a l.length cap], .bool false, undef, .agg #[.int .i64 N, .slice a l.length cap], .agg #[.int .i64 N, .slice (some ⟨g, 0, none⟩) l.length c], .agg #[.slice ba bs.length bc, .slice ca C.length cc], .agg #[.slice xa bs.length xc, .slice ya C.length yc], .slice (some ⟨b4, 0, none⟩) 0 0, .pointer (some ⟨p + 1 + 1, 3, none⟩), .slice wa ws.length wk, .slice (some ⟨gi, 0, none⟩) ws.length ci, undef, undef, undef, undef, undef, undef, undef, undef, undef, undef, undef, undef, undef, undef, undef, undef, undef, undef, undef, undef, undef, undef, undef, undef, undef, undef, undef, undef, undef, undef, undef, undef, undef, undef, undef, undef, undef, undef, undef, undef, undef, undef, undef, undef, undef, undef, undef, undef, undef, undef, undef, undef, undef, undef, undef, undef, undef, undef, undef, undef, undef, undef, undef, undef, undef, undef, undef, undef, undef, undef, undef, undef, undef, undef, undef, undef, undef, undef, undef, undef, undef, undef, undef, undef, undef, undef, undef, undef, undef, undef] w := by
      intro g c xa xc ya Y yc b4 gi ci w HB HG HC HW
      refine (hG _ _ _ _).2 ?_
      refine wpAnyH_ready (rs := [8, 9]) (by kernel_rfl) (by simp) ?_
      refine AllReadyH.cons rfl (fun K hK => ?_) (AllReadyH.cons rfl (fun K hK => ?_) (AllReadyH.nil))
      · skip
        go_simp
        have hbn : Below w.heap.size w (w.alloc (.cells #[.int .i64 0, .slice none 0 0] 24)) := (Below.refl _ _).alloc (Nat.le_refl _) _
        have N8 : Hid ((w.alloc (.cells #[.int .i64 0, .slice none 0 0] 24)).heap[w.heap.size]? = some (.cells #[.int .i64 0, .slice none 0 0] 24) ∧ W0.heap.size ≤ w.heap.size) := ⟨heap_top w _, HB.out.size⟩
        have NB : Hid (Below W0.heap.size W0 (w.alloc (.cells #[.int .i64 0, .slice none 0 0] 24))) := HB.out.trans (hbn.mono HB.out.size)
        have NG : Hid ((l.length < c ∧ c ≤ 9223372036854775807) ∧ ∃ B, (w.alloc (.cells #[.int .i64 0, .slice none 0 0] 24)).ownsRow B 68 3 (.slice (some ⟨g, 0, none⟩) (l.length + 1) c) (l.length + 1) (cellsA (l ++ [A.mark]))) := ⟨HG.out.1, HG.out.2.imp (fun _ h => own_on h hbn)⟩
        have NC : Hid (∃ B, CpO (w.alloc (.cells #[.int .i64 0, .slice none 0 0] 24)) B xa bs xc ya Y C yc) := HC.out.imp (fun _ h => h.on hbn)
        have NW : Hid ((w.alloc (.cells #[.int .i64 0, .slice none 0 0] 24)).ownsRow W0.heap.size 66 1 (.slice (some ⟨gi, 0, none⟩) ws.length ci) ws.length (cellsW ws)) := own_on HW.out hbn
        refine hK.out _ _ (HSS.out _ NB.out) (fun _ => ?_)
        clear hK K
        try simp only [List.setIfInBounds_toArray, List.set_cons_zero, List.set_cons_succ]
        exact (hG _ _ _ _).1 (H31100 g c xa xc ya Y yc b4 gi ci _ _ NB NG NC NW N8)
      · skip
        go_simp
        have hbn : Below w.heap.size w (w.alloc (.cells #[.slice none 0 0, .slice none 0 0] 28)) := (Below.refl _ _).alloc (Nat.le_refl _) _
        have N9 : Hid ((w.alloc (.cells #[.slice none 0 0, .slice none 0 0] 28)).heap[w.heap.size]? = some (.cells #[.slice none 0 0, .slice none 0 0] 28) ∧ W0.heap.size ≤ w.heap.size) := ⟨heap_top w _, HB.out.size⟩
        have NB : Hid (Below W0.heap.size W0 (w.alloc (.cells #[.slice none 0 0, .slice none 0 0] 28))) := HB.out.trans (hbn.mono HB.out.size)
        have NG : Hid ((l.length < c ∧ c ≤ 9223372036854775807) ∧ ∃ B, (w.alloc (.cells #[.slice none 0 0, .slice none 0 0] 28)).ownsRow B 68 3 (.slice (some ⟨g, 0, none⟩) (l.length + 1) c) (l.length + 1) (cellsA (l ++ [A.mark]))) := ⟨HG.out.1, HG.out.2.imp (fun _ h => own_on h hbn)⟩
        have NC : Hid (∃ B, CpO (w.alloc (.cells #[.slice none 0 0, .slice none 0 0] 28)) B xa bs xc ya Y C yc) := HC.out.imp (fun _ h => h.on hbn)
        have NW : Hid ((w.alloc (.cells #[.slice none 0 0, .slice none 0 0] 28)).ownsRow W0.heap.size 66 1 (.slice (some ⟨gi, 0, none⟩) ws.length ci) ws.length (cellsW ws)) := own_on HW.out hbn
        refine hK.out _ _ (HSS.out _ NB.out) (fun _ => ?_)
        clear hK K
        try simp only [List.setIfInBounds_toArray, List.set_cons_zero, List.set_cons_succ]
        exact (hG _ _ _ _).1 (H31010 g c xa xc ya Y yc b4 gi ci _ _ NB NG NC NW N9)
    have H21110 : ∀ (g c : Nat) (xa : Option Addr) (xc : Nat) (ya : Option Addr) (Y : List Cl) (yc : Nat) (b4 : Nat) (bg : Nat) (bn : Nat) (w : World), Hid (Below W0.heap.size W0 w) → Hid ((l.length < c ∧ c ≤ 9223372036854775807) ∧ ∃ B, w.ownsRow B 68 3 (.slice (some ⟨g, 0, none⟩) (l.length + 1) c) (l.length + 1) (cellsA (l ++ [A.mark]))) → Hid (∃ B, CpO w B xa bs xc ya Y C yc) → Hid (w.ownsRow W0.heap.size 66 1 (.slice (some ⟨b4, 0, none⟩) 0 0) 0 []) → Hid (w.heap[bg]? = some (.cells #[.int .i64 0, .slice none 0 0] 24) ∧ W0.heap.size ≤ bg) → Hid (w.heap[bn]? = some (.cells #[.slice none 0 0, .slice none 0 0] 28) ∧ W0.heap.size ≤ bn) → Hid (bg ≠ bn) → G 4 #[true, true, true, true, true, true, true, false, true, true, false, false, false] #[.agg #[.int .i64 N, .slice a l.length cap], .agg #[.slice ba bs.length bc, .slice ca C.length cc], .agg #[.int .i64 lv, .int .i64 ce, .int .i64 ep, .slice wa ws.length wk, x], .pointer (some ⟨p, 0, none⟩), .pointer (some ⟨p + 1, 0, none⟩), .pointer (some ⟨p + 1 + 1, 0, none⟩), .bool false, .pointer (some ⟨bg, 0, none⟩), .pointer (some ⟨bn, 0, none⟩), undef, undef, undef, undef, undef, undef, undef, undef, undef, .agg #[.int .i64 N, .slice a l.length cap], .bool false, undef, .agg #[.int .i64 N, .slice a l.length cap], .agg #[.int .i64 N, .slice (some ⟨g, 0, none⟩) l.length c], .agg #[.slice ba bs.length bc, .slice ca C.length cc], .agg #[.slice xa bs.length xc, .slice ya C.length yc], .slice (some ⟨b4, 0, none⟩) 0 0, .pointer (some ⟨p + 1 + 1, 3, none⟩), .slice wa ws.length wk, undef, undef, undef, undef, undef, undef, undef, undef, undef, undef, undef, undef, undef, undef, undef, undef, undef, undef, undef, undef, undef, undef, undef, undef, undef, undef, undef, undef, undef, undef, undef, undef, undef, undef, undef, undef, undef, undef, undef, undef, undef, undef, undef, undef, undef, undef, undef, undef, undef, undef, undef, undef, undef, undef, undef, undef, undef, undef, undef, undef, undef, undef, undef, undef, undef, undef, undef, undef, undef, undef, undef, undef, undef, undef, undef, undef, undef, undef, undef, undef, undef, undef, undef, undef, undef, undef, undef, undef, undef, undef, undef] w := by
      intro g c xa xc ya Y yc b4 bg bn w HB HG HC HL H8 H9 HNE
      refine (hG _ _ _ _).2 ?_
      refine wpAnyH_ready (rs := [7]) (by kernel_rfl) (by simp) ?_
      refine AllReadyH.cons rfl (fun K hK => ?_) (AllReadyH.nil)
      · skip
        rw [if_pos (by rfl)]
        refine wp_append_camew (.tmp 25) (.tmp 27) 29 rfl W0.heap.size i54 Tryz.underlying29 hi54 hz54 hs54 hby54 (.slice (some ⟨b4, 0, none⟩) 0 0) 0 [] rfl HL.out (by simp) wa ws wk rfl HND.out (HWTS.out w HB.out) (by unfold maxLen; omega) (by omega) HB.out.size ?_
        intro v5 w' hown5 hgrow5 hnil5
        obtain ⟨gi, ci, hv5, _, _, _, _⟩ := own_shape hown5 hnil5
        rw [hv5] at hown5 ⊢
        simp only [Nat.zero_add, List.nil_append] at hown5 ⊢
        have NW : Hid (w'.ownsRow W0.heap.size 66 1 (.slice (some ⟨gi, 0, none⟩) ws.length ci) ws.length (cellsW ws)) := hown5
        have NB : Hid (Below W0.heap.size W0 w') := HB.out.grown hgrow5 HB.out.size (fun j hj => (HL.out.lt j hj).1)
        have NG : Hid ((l.length < c ∧ c ≤ 9223372036854775807) ∧ ∃ B, w'.ownsRow B 68 3 (.slice (some ⟨g, 0, none⟩) (l.length + 1) c) (l.length + 1) (cellsA (l ++ [A.mark]))) := ⟨HG.out.1, HG.out.2.imp (fun _ h => own_kept h HL.out (by decide) hgrow5)⟩
        have NC : Hid (∃ B, CpO w' B xa bs xc ya Y C yc) := HC.out.imp (fun _ h => ⟨own_kept h.1 HL.out (by decide) hgrow5, own_kept h.2.1 HL.out (by decide) hgrow5, h.2.2.1, fun j hj => ⟨own_kept (h.2.2.2 j hj).1 HL.out (by decide) hgrow5, (h.2.2.2 j hj).2⟩⟩)
        have N8 : Hid (w'.heap[bg]? = some (.cells #[.int .i64 0, .slice none 0 0] 24) ∧ W0.heap.size ≤ bg) := ⟨(grown_block H8.out.1 HL.out (by decide) hgrow5).trans H8.out.1, H8.out.2⟩
        have N9 : Hid (w'.heap[bn]? = some (.cells #[.slice none 0 0, .slice none 0 0] 28) ∧ W0.heap.size ≤ bn) := ⟨(grown_block H9.out.1 HL.out (by decide) hgrow5).trans H9.out.1, H9.out.2⟩
        clear hown5 hgrow5 hnil5 hv5
        refine hK.out _ _ (HSS.out _ NB.out) (fun _ => ?_)
        clear hK K
        try simp only [Act.put, List.getElem_toArray, List.getElem_cons_zero, List.getElem_cons_succ, List.setIfInBounds_toArray, List.set_cons_zero, List.set_cons_succ]
        exact (hG _ _ _ _).1 (H31110 g c xa xc ya Y yc b4 gi ci bg bn _ NB NG NC NW N8 N9 HNE)
    have H21100 : ∀ (g c : Nat) (xa : Option Addr) (xc : Nat) (ya : Option Addr) (Y : List Cl) (yc : Nat) (b4 : Nat) (bg : Nat) (w : World), Hid (Below W0.heap.size W0 w) → Hid ((l.length < c ∧ c ≤ 9223372036854775807) ∧ ∃ B, w.ownsRow B 68 3 (.slice (some ⟨g, 0, none⟩) (l.length + 1) c) (l.length + 1) (cellsA (l ++ [A.mark]))) → Hid (∃ B, CpO w B xa bs xc ya Y C yc) → Hid (w.ownsRow W0.heap.size 66 1 (.slice (some ⟨b4, 0, none⟩) 0 0) 0 []) → Hid (w.heap[bg]? = some (.cells #[.int .i64 0, .slice none 0 0] 24) ∧ W0.heap.size ≤ bg) → G 5 #[true, true, true, true, true, true, true, false, true, false, false, false, false] #[.agg #[.int .i64 N, .slice a l.length cap], .agg #[.slice ba bs.length bc, .slice ca C.length cc], .agg #[.int .i64 lv, .int .i64 ce, .int .i64 ep, .slice wa ws.length wk, x], .pointer (some ⟨p, 0, none⟩), .pointer (some ⟨p + 1, 0, none⟩), .pointer (some ⟨p + 1 + 1, 0, none⟩), .bool false, .pointer (some ⟨bg, 0, none⟩), undef, undef, undef, undef, undef, undef, undef, undef, undef, undef, .agg #[.int .i64 N, .slice a l.length cap], .bool false, undef, .agg #[.int .i64 N, .slice a l.length cap], .agg #[.int .i64 N, .slice (some ⟨g, 0, none⟩) l.length c], .agg #[.slice ba bs.length bc, .slice ca C.length cc], .agg #[.slice xa bs.length xc, .slice ya C.length yc], .slice (some ⟨b4, 0, none⟩) 0 0, .pointer (some ⟨p + 1 + 1, 3, none⟩), .slice wa ws.length wk, undef, undef, undef, undef, undef, undef, undef, undef, undef, undef, undef, undef, undef, undef, undef, undef, undef, undef, undef, undef, undef, undef, undef, undef, undef, undef, undef, undef, undef, undef, undef, undef, undef, undef, undef, undef, undef, undef, undef, undef, undef, undef, undef, undef, undef, undef, undef, undef, undef, undef, undef, undef, undef, undef, undef, undef, undef, undef, undef, undef, undef, undef, undef, undef, undef, undef, undef, undef, undef, undef, undef, undef, undef, undef, undef, undef, undef, undef, undef, undef, undef, undef, undef, undef, undef, undef, undef, undef, undef, undef, undef] w := by
      intro g c xa xc ya Y yc b4 bg w HB HG HC HL H8
      refine (hG _ _ _ _).2 ?_
      refine wpAnyH_ready (rs := [7, 9]) (by kernel_rfl) (by simp) ?_
      refine AllReadyH.cons rfl (fun K hK => ?_) (AllReadyH.cons rfl (fun K hK => ?_) (AllReadyH.nil))
      · skip
        rw [if_pos (by rfl)]
        refine wp_append_camew (.tmp 25) (.tmp 27) 29 rfl W0.heap.size i54 Tryz.underlying29 hi54 hz54 hs54 hby54 (.slice (some ⟨b4, 0, none⟩) 0 0) 0 [] rfl HL.out (by simp) wa ws wk rfl HND.out (HWTS.out w HB.out) (by unfold maxLen; omega) (by omega) HB.out.size ?_
        intro v5 w' hown5 hgrow5 hnil5
        obtain ⟨gi, ci, hv5, _, _, _, _⟩ := own_shape hown5 hnil5
        rw [hv5] at hown5 ⊢
        simp only [Nat.zero_add, List.nil_append] at hown5 ⊢
        have NW : Hid (w'.ownsRow W0.heap.size 66 1 (.slice (some ⟨gi, 0, none⟩) ws.length ci) ws.length (cellsW ws)) := hown5
        have NB : Hid (Below W0.heap.size W0 w') := HB.out.grown hgrow5 HB.out.size (fun j hj => (HL.out.lt j hj).1)
        have NG : Hid ((l.length < c ∧ c ≤ 9223372036854775807) ∧ ∃ B, w'.ownsRow B 68 3 (.slice (some ⟨g, 0, none⟩) (l.length + 1) c) (l.length + 1) (cellsA (l ++ [A.mark]))) := ⟨HG.out.1, HG.out.2.imp (fun _ h => own_kept h HL.out (by decide) hgrow5)⟩
        have NC : Hid (∃ B, CpO w' B xa bs xc ya Y C yc) := HC.out.imp (fun _ h => ⟨own_kept h.1 HL.out (by decide) hgrow5, own_kept h.2.1 HL.out (by decide) hgrow5, h.2.2.1, fun j hj => ⟨own_kept (h.2.2.2 j hj).1 HL.out (by decide) hgrow5, (h.2.2.2 j hj).2⟩⟩)
        have N8 : Hid (w'.heap[bg]? = some (.cells #[.int .i64 0, .slice none 0 0] 24) ∧ W0.heap.size ≤ bg) := ⟨(grown_block H8.out.1 HL.out (by decide) hgrow5).trans H8.out.1, H8.out.2⟩
        clear hown5 hgrow5 hnil5 hv5
        refine hK.out _ _ (HSS.out _ NB.out) (fun _ => ?_)
        clear hK K
        try simp only [Act.put, List.getElem_toArray, List.getElem_cons_zero, List.getElem_cons_succ, List.setIfInBounds_toArray, List.set_cons_zero, List.set_cons_succ]
        exact (hG _ _ _ _).1 (H31100 g c xa xc ya Y yc b4 gi ci bg _ NB NG NC NW N8)
      · skip
        go_simp
        have hbn : Below w.heap.size w (w.alloc (.cells #[.slice none 0 0, .slice none 0 0] 28)) := (Below.refl _ _).alloc (Nat.le_refl _) _
        have N9 : Hid ((w.alloc (.cells #[.slice none 0 0, .slice none 0 0] 28)).heap[w.heap.size]? = some (.cells #[.slice none 0 0, .slice none 0 0] 28) ∧ W0.heap.size ≤ w.heap.size) := ⟨heap_top w _, HB.out.size⟩
        have NNE : Hid (bg ≠ w.heap.size) := fun h => by have := lt_of_block H8.out.1; omega
        have NB : Hid (Below W0.heap.size W0 (w.alloc (.cells #[.slice none 0 0, .slice none 0 0] 28))) := HB.out.trans (hbn.mono HB.out.size)
        have NG : Hid ((l.length < c ∧ c ≤ 9223372036854775807) ∧ ∃ B, (w.alloc (.cells #[.slice none 0 0, .slice none 0 0] 28)).ownsRow B 68 3 (.slice (some ⟨g, 0, none⟩) (l.length + 1) c) (l.length + 1) (cellsA (l ++ [A.mark]))) := ⟨HG.out.1, HG.out.2.imp (fun _ h => own_on h hbn)⟩
        have NC : Hid (∃ B, CpO (w.alloc (.cells #[.slice none 0 0, .slice none 0 0] 28)) B xa bs xc ya Y C yc) := HC.out.imp (fun _ h => h.on hbn)
        have NL : Hid ((w.alloc (.cells #[.slice none 0 0, .slice none 0 0] 28)).ownsRow W0.heap.size 66 1 (.slice (some ⟨b4, 0, none⟩) 0 0) 0 []) := own_on HL.out hbn
        have N8 : Hid ((w.alloc (.cells #[.slice none 0 0, .slice none 0 0] 28)).heap[bg]? = some (.cells #[.int .i64 0, .slice none 0 0] 24) ∧ W0.heap.size ≤ bg) := ⟨(hbn.block _ (lt_of_block H8.out.1)).trans H8.out.1, H8.out.2⟩
        refine hK.out _ _ (HSS.out _ NB.out) (fun _ => ?_)
        clear hK K
        try simp only [List.setIfInBounds_toArray, List.set_cons_zero, List.set_cons_succ]
        exact (hG _ _ _ _).1 (H21110 g c xa xc ya Y yc b4 bg _ _ NB NG NC NL N8 N9 NNE)
    have H21010 : ∀ (g c : Nat) (xa : Option Addr) (xc : Nat) (ya : Option Addr) (Y : List Cl) (yc : Nat) (b4 : Nat) (bn : Nat) (w : World), Hid (Below W0.heap.size W0 w) → Hid ((l.length < c ∧ c ≤ 9223372036854775807) ∧ ∃ B, w.ownsRow B 68 3 (.slice (some ⟨g, 0, none⟩) (l.length + 1) c) (l.length + 1) (cellsA (l ++ [A.mark]))) → Hid (∃ B, CpO w B xa bs xc ya Y C yc) → Hid (w.ownsRow W0.heap.size 66 1 (.slice (some ⟨b4, 0, none⟩) 0 0) 0 []) → Hid (w.heap[bn]? = some (.cells #[.slice none 0 0, .slice none 0 0] 28) ∧ W0.heap.size ≤ bn) → G 5 #[true, true, true, true, true, true, true, false, false, true, false, false, false] #[.agg #[.int .i64 N, .slice a l.length cap], .agg #[.slice ba bs.length bc, .slice ca C.length cc], .agg #[.int .i64 lv, .int .i64 ce, .int .i64 ep, .slice wa ws.length wk, x], .pointer (some ⟨p, 0, none⟩), .pointer (some ⟨p + 1, 0, none⟩), .pointer (some ⟨p + 1 + 1, 0, none⟩), .bool false, undef, .pointer (some ⟨bn, 0, none⟩), undef, undef, undef, undef, undef, undef, undef, undef, undef, .agg #[.int .i64 N, .slice a l.length cap], .bool false, undef, .agg #[.int .i64 N, .slice a l.length cap], .agg #[.int .i64 N, .slice (some ⟨g, 0, none⟩) l.length c], .agg #[.slice ba bs.length bc, .slice ca C.length cc], .agg #[.slice xa bs.length xc, .slice ya C.length yc], .slice (some ⟨b4, 0, none⟩) 0 0, .pointer (some ⟨p + 1 + 1, 3, none⟩), .slice wa ws.length wk, undef, undef, undef, undef, undef, undef, undef, undef, undef, undef, undef, undef, undef, undef, undef, undef, undef, undef, undef, undef, undef, undef, undef, undef, undef, undef, undef, undef, undef, undef, undef, undef, undef, undef, undef, undef, undef, undef, undef, undef, undef, undef, undef, undef, undef, undef, undef, undef, undef, undef, undef, undef, undef, undef, undef, undef, undef, undef, undef, undef, undef, undef, undef, undef, undef, undef, undef, undef, undef, undef, undef, undef, undef, undef, undef, undef, undef, undef, undef, undef, undef, undef, undef, undef, undef, undef, undef, undef, undef, undef, undef] w := by
      intro g c xa xc ya Y yc b4 bn w HB HG HC HL H9
      refine (hG _ _ _ _).2 ?_
      refine wpAnyH_ready (rs := [7, 8]) (by kernel_rfl) (by simp) ?_
      refine AllReadyH.cons rfl (fun K hK => ?_) (AllReadyH.cons rfl (fun K hK => ?_) (AllReadyH.nil))
      · skip
        rw [if_pos (by rfl)]
        refine wp_append_camew (.tmp 25) (.tmp 27) 29 rfl W0.heap.size i54 Tryz.underlying29 hi54 hz54 hs54 hby54 (.slice (some ⟨b4, 0, none⟩) 0 0) 0 [] rfl HL.out (by simp) wa ws wk rfl HND.out (HWTS.out w HB.out) (by unfold maxLen; omega) (by omega) HB.out.size ?_
        intro v5 w' hown5 hgrow5 hnil5
        obtain ⟨gi, ci, hv5, _, _, _, _⟩ := own_shape hown5 hnil5
        rw [hv5] at hown5 ⊢
        simp only [Nat.zero_add, List.nil_append] at hown5 ⊢
        have NW : Hid (w'.ownsRow W0.heap.size 66 1 (.slice (some ⟨gi, 0, none⟩) ws.length ci) ws.length (cellsW ws)) := hown5
        have NB : Hid (Below W0.heap.size W0 w') := HB.out.grown hgrow5 HB.out.size (fun j hj => (HL.out.lt j hj).1)
        have NG : Hid ((l.length < c ∧ c ≤ 9223372036854775807) ∧ ∃ B, w'.ownsRow B 68 3 (.slice (some ⟨g, 0, none⟩) (l.length + 1) c) (l.length + 1) (cellsA (l ++ [A.mark]))) := ⟨HG.out.1, HG.out.2.imp (fun _ h => own_kept h HL.out (by decide) hgrow5)⟩
        have NC : Hid (∃ B, CpO w' B xa bs xc ya Y C yc) := HC.out.imp (fun _ h => ⟨own_kept h.1 HL.out (by decide) hgrow5, own_kept h.2.1 HL.out (by decide) hgrow5, h.2.2.1, fun j hj => ⟨own_kept (h.2.2.2 j hj).1 HL.out (by decide) hgrow5, (h.2.2.2 j hj).2⟩⟩)
        have N9 : Hid (w'.heap[bn]? = some (.cells #[.slice none 0 0, .slice none 0 0] 28) ∧ W0.heap.size ≤ bn) := ⟨(grown_block H9.out.1 HL.out (by decide) hgrow5).trans H9.out.1, H9.out.2⟩
        clear hown5 hgrow5 hnil5 hv5
        refine hK.out _ _ (HSS.out _ NB.out) (fun _ => ?_)
        clear hK K
        try simp only [Act.put, List.getElem_toArray, List.getElem_cons_zero, List.getElem_cons_succ, List.setIfInBounds_toArray, List.set_cons_zero, List.set_cons_succ]
        exact (hG _ _ _ _).1 (H31010 g c xa xc ya Y yc b4 gi ci bn _ NB NG NC NW N9)
      · skip
        go_simp
        have hbn : Below w.heap.size w (w.alloc (.cells #[.int .i64 0, .slice none 0 0] 24)) := (Below.refl _ _).alloc (Nat.le_refl _) _
        have N8 : Hid ((w.alloc (.cells #[.int .i64 0, .slice none 0 0] 24)).heap[w.heap.size]? = some (.cells #[.int .i64 0, .slice none 0 0] 24) ∧ W0.heap.size ≤ w.heap.size) := ⟨heap_top w _, HB.out.size⟩
        have NNE : Hid (w.heap.size ≠ bn) := fun h => by have := lt_of_block H9.out.1; omega
        have NB : Hid (Below W0.heap.size W0 (w.alloc (.cells #[.int .i64 0, .slice none 0 0] 24))) := HB.out.trans (hbn.mono HB.out.size)
        have NG : Hid ((l.length < c ∧ c ≤ 9223372036854775807) ∧ ∃ B, (w.alloc (.cells #[.int .i64 0, .slice none 0 0] 24)).ownsRow B 68 3 (.slice (some ⟨g, 0, none⟩) (l.length + 1) c) (l.length + 1) (cellsA (l ++ [A.mark]))) := ⟨HG.out.1, HG.out.2.imp (fun _ h => own_on h hbn)⟩
        have NC : Hid (∃ B, CpO (w.alloc (.cells #[.int .i64 0, .slice none 0 0] 24)) B xa bs xc ya Y C yc) := HC.out.imp (fun _ h => h.on hbn)
        have NL : Hid ((w.alloc (.cells #[.int .i64 0, .slice none 0 0] 24)).ownsRow W0.heap.size 66 1 (.slice (some ⟨b4, 0, none⟩) 0 0) 0 []) := own_on HL.out hbn
        have N9 : Hid ((w.alloc (.cells #[.int .i64 0, .slice none 0 0] 24)).heap[bn]? = some (.cells #[.slice none 0 0, .slice none 0 0] 28) ∧ W0.heap.size ≤ bn) := ⟨(hbn.block _ (lt_of_block H9.out.1)).trans H9.out.1, H9.out.2⟩
        refine hK.out _ _ (HSS.out _ NB.out) (fun _ => ?_)
        clear hK K
        try simp only [List.setIfInBounds_toArray, List.set_cons_zero, List.set_cons_succ]
        exact (hG _ _ _ _).1 (H21110 g c xa xc ya Y yc b4 _ bn _ NB NG NC NL N8 N9 NNE)
    have H21000 : ∀ (g c : Nat) (xa : Option Addr) (xc : Nat) (ya : Option Addr) (Y : List Cl) (yc : Nat) (b4 : Nat) (w : World), Hid (Below W0.heap.size W0 w) → Hid ((l.length < c ∧ c ≤ 9223372036854775807) ∧ ∃ B, w.ownsRow B 68 3 (.slice (some ⟨g, 0, none⟩) (l.length + 1) c) (l.length + 1) (cellsA (l ++ [A.mark]))) → Hid (∃ B, CpO w B xa bs xc ya Y C yc) → Hid (w.ownsRow W0.heap.size 66 1 (.slice (some ⟨b4, 0, none⟩) 0 0) 0 []) → G 6 #[true, true, true, true, true, true, true, false, false, false, false, false, false] #[.agg #[.int .i64 N, .slice a l.length cap], .agg #[.slice ba bs.length bc, .slice ca C.length cc], .agg #[.int .i64 lv, .int .i64 ce, .int .i64 ep, .slice wa ws.length wk, x], .pointer (some ⟨p, 0, none⟩), .pointer (some ⟨p + 1, 0, none⟩), .pointer (some ⟨p + 1 + 1, 0, none⟩), .bool false, undef, undef, undef, undef, undef, undef, undef, undef, undef, undef, undef, .agg #[.int .i64 N, .slice a l.length cap], .bool false, undef, .agg #[.int .i64 N, .slice a l.length cap], .agg #[.int .i64 N, .slice (some ⟨g, 0, none⟩) l.length c], .agg #[.slice ba bs.length bc, .slice ca C.length cc], .agg #[.slice xa bs.length xc, .slice ya C.length yc], .slice (some ⟨b4, 0, none⟩) 0 0, .pointer (some ⟨p + 1 + 1, 3, none⟩), .slice wa ws.length wk, undef, undef, undef, undef, undef, undef, undef, undef, undef, undef, undef, undef, undef, undef, undef, undef, undef, undef, undef, undef, undef, undef, undef, undef, undef, undef, undef, undef, undef, undef, undef, undef, undef, undef, undef, undef, undef, undef, undef, undef, undef, undef, undef, undef, undef, undef, undef, undef, undef, undef, undef, undef, undef, undef, undef, undef, undef, undef, undef, undef, undef, undef, undef, undef, undef, undef, undef, undef, undef, undef, undef, undef, undef, undef, undef, undef, undef, undef, undef, undef, undef, undef, undef, undef, undef, undef, undef, undef, undef, undef, undef] w := by
      intro g c xa xc ya Y yc b4 w HB HG HC HL
      refine (hG _ _ _ _).2 ?_
      refine wpAnyH_ready (rs := [7, 8, 9]) (by kernel_rfl) (by simp) ?_
      refine AllReadyH.cons rfl (fun K hK => ?_) (AllReadyH.cons rfl (fun K hK => ?_) (AllReadyH.cons rfl (fun K hK => ?_) (AllReadyH.nil)))
      · skip
        rw [if_pos (by rfl)]
        refine wp_append_camew (.tmp 25) (.tmp 27) 29 rfl W0.heap.size i54 Tryz.underlying29 hi54 hz54 hs54 hby54 (.slice (some ⟨b4, 0, none⟩) 0 0) 0 [] rfl HL.out (by simp) wa ws wk rfl HND.out (HWTS.out w HB.out) (by unfold maxLen; omega) (by omega) HB.out.size ?_
        intro v5 w' hown5 hgrow5 hnil5
        obtain ⟨gi, ci, hv5, _, _, _, _⟩ := own_shape hown5 hnil5
        rw [hv5] at hown5 ⊢
        simp only [Nat.zero_add, List.nil_append] at hown5 ⊢
        have NW : Hid (w'.ownsRow W0.heap.size 66 1 (.slice (some ⟨gi, 0, none⟩) ws.length ci) ws.length (cellsW ws)) := hown5
        have NB : Hid (Below W0.heap.size W0 w') := HB.out.grown hgrow5 HB.out.size (fun j hj => (HL.out.lt j hj).1)
        have NG : Hid ((l.length < c ∧ c ≤ 9223372036854775807) ∧ ∃ B, w'.ownsRow B 68 3 (.slice (some ⟨g, 0, none⟩) (l.length + 1) c) (l.length + 1) (cellsA (l ++ [A.mark]))) := ⟨HG.out.1, HG.out.2.imp (fun _ h => own_kept h HL.out (by decide) hgrow5)⟩
        have NC : Hid (∃ B, CpO w' B xa bs xc ya Y C yc) := HC.out.imp (fun _ h => ⟨own_kept h.1 HL.out (by decide) hgrow5, own_kept h.2.1 HL.out (by decide) hgrow5, h.2.2.1, fun j hj => ⟨own_kept (h.2.2.2 j hj).1 HL.out (by decide) hgrow5, (h.2.2.2 j hj).2⟩⟩)
        clear hown5 hgrow5 hnil5 hv5
        refine hK.out _ _ (HSS.out _ NB.out) (fun _ => ?_)
        clear hK K
        try simp only [Act.put, List.getElem_toArray, List.getElem_cons_zero, List.getElem_cons_succ, List.setIfInBounds_toArray, List.set_cons_zero, List.set_cons_succ]
        exact (hG _ _ _ _).1 (H31000 g c xa xc ya Y yc b4 gi ci _ NB NG NC NW)
      · skip
        go_simp
        have hbn : Below w.heap.size w (w.alloc (.cells #[.int .i64 0, .slice none 0 0] 24)) := (Below.refl _ _).alloc (Nat.le_refl _) _
        have N8 : Hid ((w.alloc (.cells #[.int .i64 0, .slice none 0 0] 24)).heap[w.heap.size]? = some (.cells #[.int .i64 0, .slice none 0 0] 24) ∧ W0.heap.size ≤ w.heap.size) := ⟨heap_top w _, HB.out.size⟩
        have NB : Hid (Below W0.heap.size W0 (w.alloc (.cells #[.int .i64 0, .slice none 0 0] 24))) := HB.out.trans (hbn.mono HB.out.size)
        have NG : Hid ((l.length < c ∧ c ≤ 9223372036854775807) ∧ ∃ B, (w.alloc (.cells #[.int .i64 0, .slice none 0 0] 24)).ownsRow B 68 3 (.slice (some ⟨g, 0, none⟩) (l.length + 1) c) (l.length + 1) (cellsA (l ++ [A.mark]))) := ⟨HG.out.1, HG.out.2.imp (fun _ h => own_on h hbn)⟩
        have NC : Hid (∃ B, CpO (w.alloc (.cells #[.int .i64 0, .slice none 0 0] 24)) B xa bs xc ya Y C yc) := HC.out.imp (fun _ h => h.on hbn)
        have NL : Hid ((w.alloc (.cells #[.int .i64 0, .slice none 0 0] 24)).ownsRow W0.heap.size 66 1 (.slice (some ⟨b4, 0, none⟩) 0 0) 0 []) := own_on HL.out hbn
        refine hK.out _ _ (HSS.out _ NB.out) (fun _ => ?_)
        clear hK K
        try simp only [List.setIfInBounds_toArray, List.set_cons_zero, List.set_cons_succ]
        exact (hG _ _ _ _).1 (H21100 g c xa xc ya Y yc b4 _ _ NB NG NC NL N8)
      · skip
        go_simp
        have hbn : Below w.heap.size w (w.alloc (.cells #[.slice none 0 0, .slice none 0 0] 28)) := (Below.refl _ _).alloc (Nat.le_refl _) _
        have N9 : Hid ((w.alloc (.cells #[.slice none 0 0, .slice none 0 0] 28)).heap[w.heap.size]? = some (.cells #[.slice none 0 0, .slice none 0 0] 28) ∧ W0.heap.size ≤ w.heap.size) := ⟨heap_top w _, HB.out.size⟩
        have NB : Hid (Below W0.heap.size W0 (w.alloc (.cells #[.slice none 0 0, .slice none 0 0] 28))) := HB.out.trans (hbn.mono HB.out.size)
        have NG : Hid ((l.length < c ∧ c ≤ 9223372036854775807) ∧ ∃ B, (w.alloc (.cells #[.slice none 0 0, .slice none 0 0] 28)).ownsRow B 68 3 (.slice (some ⟨g, 0, none⟩) (l.length + 1) c) (l.length + 1) (cellsA (l ++ [A.mark]))) := ⟨HG.out.1, HG.out.2.imp (fun _ h => own_on h hbn)⟩
        have NC : Hid (∃ B, CpO (w.alloc (.cells #[.slice none 0 0, .slice none 0 0] 28)) B xa bs xc ya Y C yc) := HC.out.imp (fun _ h => h.on hbn)
        have NL : Hid ((w.alloc (.cells #[.slice none 0 0, .slice none 0 0] 28)).ownsRow W0.heap.size 66 1 (.slice (some ⟨b4, 0, none⟩) 0 0) 0 []) := own_on HL.out hbn
        refine hK.out _ _ (HSS.out _ NB.out) (fun _ => ?_)
        clear hK K
        try simp only [List.setIfInBounds_toArray, List.set_cons_zero, List.set_cons_succ]
        exact (hG _ _ _ _).1 (H21010 g c xa xc ya Y yc b4 _ _ NB NG NC NL N9)
    have H20110 : ∀ (g c : Nat) (xa : Option Addr) (xc : Nat) (ya : Option Addr) (Y : List Cl) (yc : Nat) (bg : Nat) (bn : Nat) (w : World), Hid (Below W0.heap.size W0 w) → Hid ((l.length < c ∧ c ≤ 9223372036854775807) ∧ ∃ B, w.ownsRow B 68 3 (.slice (some ⟨g, 0, none⟩) (l.length + 1) c) (l.length + 1) (cellsA (l ++ [A.mark]))) → Hid (∃ B, CpO w B xa bs xc ya Y C yc) → Hid (w.heap[bg]? = some (.cells #[.int .i64 0, .slice none 0 0] 24) ∧ W0.heap.size ≤ bg) → Hid (w.heap[bn]? = some (.cells #[.slice none 0 0, .slice none 0 0] 28) ∧ W0.heap.size ≤ bn) → Hid (bg ≠ bn) → G 5 #[true, true, true, true, false, true, true, false, true, true, false, false, false] #[.agg #[.int .i64 N, .slice a l.length cap], .agg #[.slice ba bs.length bc, .slice ca C.length cc], .agg #[.int .i64 lv, .int .i64 ce, .int .i64 ep, .slice wa ws.length wk, x], .pointer (some ⟨p, 0, none⟩), .pointer (some ⟨p + 1, 0, none⟩), .pointer (some ⟨p + 1 + 1, 0, none⟩), .bool false, .pointer (some ⟨bg, 0, none⟩), .pointer (some ⟨bn, 0, none⟩), undef, undef, undef, undef, undef, undef, undef, undef, undef, .agg #[.int .i64 N, .slice a l.length cap], .bool false, undef, .agg #[.int .i64 N, .slice a l.length cap], .agg #[.int .i64 N, .slice (some ⟨g, 0, none⟩) l.length c], .agg #[.slice ba bs.length bc, .slice ca C.length cc], .agg #[.slice xa bs.length xc, .slice ya C.length yc], undef, .pointer (some ⟨p + 1 + 1, 3, none⟩), .slice wa ws.length wk, undef, undef, undef, undef, undef, undef, undef, undef, undef, undef, undef, undef, undef, undef, undef, undef, undef, undef, undef, undef, undef, undef, undef, undef, undef, undef, undef, undef, undef, undef, undef, undef, undef, undef, undef, undef, undef, undef, undef, undef, undef, undef, undef, undef, undef, undef, undef, undef, undef, undef, undef, undef, undef, undef, undef, undef, undef, undef, undef, undef, undef, undef, undef, undef, undef, undef, undef, undef, undef, undef, undef, undef, undef, undef, undef, undef, undef, undef, undef, undef, undef, undef, undef, undef, undef, undef, undef, undef, undef, undef, undef] w := by
      intro g c xa xc ya Y yc bg bn w HB HG HC H8 H9 HNE
      refine (hG _ _ _ _).2 ?_
      refine wpAnyH_ready (rs := [4]) (by kernel_rfl) (by simp) ?_
      refine AllReadyH.cons rfl (fun K hK => ?_) (AllReadyH.nil)
      · skip
        go_simp
        have hbn : Below w.heap.size w (w.alloc (.cells #[] 66)) := (Below.refl _ _).alloc (Nat.le_refl _) _
        have NL : Hid ((w.alloc (.cells #[] 66)).ownsRow W0.heap.size 66 1 (.slice (some ⟨w.heap.size, 0, none⟩) 0 0) 0 []) := World.ownsRow_lit (base := W0.heap.size) (e := 66) (size := 1) w #[] 0 HB.out.size (by decide) rfl
        have NB : Hid (Below W0.heap.size W0 (w.alloc (.cells #[] 66))) := HB.out.trans (hbn.mono HB.out.size)
        have NG : Hid ((l.length < c ∧ c ≤ 9223372036854775807) ∧ ∃ B, (w.alloc (.cells #[] 66)).ownsRow B 68 3 (.slice (some ⟨g, 0, none⟩) (l.length + 1) c) (l.length + 1) (cellsA (l ++ [A.mark]))) := ⟨HG.out.1, HG.out.2.imp (fun _ h => own_on h hbn)⟩
        have NC : Hid (∃ B, CpO (w.alloc (.cells #[] 66)) B xa bs xc ya Y C yc) := HC.out.imp (fun _ h => h.on hbn)
        have N8 : Hid ((w.alloc (.cells #[] 66)).heap[bg]? = some (.cells #[.int .i64 0, .slice none 0 0] 24) ∧ W0.heap.size ≤ bg) := ⟨(hbn.block _ (lt_of_block H8.out.1)).trans H8.out.1, H8.out.2⟩
        have N9 : Hid ((w.alloc (.cells #[] 66)).heap[bn]? = some (.cells #[.slice none 0 0, .slice none 0 0] 28) ∧ W0.heap.size ≤ bn) := ⟨(hbn.block _ (lt_of_block H9.out.1)).trans H9.out.1, H9.out.2⟩
        refine hK.out _ _ (HSS.out _ NB.out) (fun _ => ?_)
        clear hK K
        try simp only [List.setIfInBounds_toArray, List.set_cons_zero, List.set_cons_succ]
        exact (hG _ _ _ _).1 (H21110 g c xa xc ya Y yc _ bg bn _ NB NG NC NL N8 N9 HNE)
    have H20100 : ∀ (g c : Nat) (xa : Option Addr) (xc : Nat) (ya : Option Addr) (Y : List Cl) (yc : Nat) (bg : Nat) (w : World), Hid (Below W0.heap.size W0 w) → Hid ((l.length < c ∧ c ≤ 9223372036854775807) ∧ ∃ B, w.ownsRow B 68 3 (.slice (some ⟨g, 0, none⟩) (l.length + 1) c) (l.length + 1) (cellsA (l ++ [A.mark]))) → Hid (∃ B, CpO w B xa bs xc ya Y C yc) → Hid (w.heap[bg]? = some (.cells #[.int .i64 0, .slice none 0 0] 24) ∧ W0.heap.size ≤ bg) → G 6 #[true, true, true, true, false, true, true, false, true, false, false, false, false] #[.agg #[.int .i64 N, .slice a l.length cap], .agg #[.slice ba bs.length bc, .slice ca C.length cc], .agg #[.int .i64 lv, .int .i64 ce, .int .i64 ep, .slice wa ws.length wk, x], .pointer (some ⟨p, 0, none⟩), .pointer (some ⟨p + 1, 0, none⟩), .pointer (some ⟨p + 1 + 1, 0, none⟩), .bool false, .pointer (some ⟨bg, 0, none⟩), undef, undef, undef, undef, undef, undef, undef, undef, undef, undef, .agg #[.int .i64 N, .slice a l.length cap], .bool false, undef, .agg #[.int .i64 N, .slice a l.length cap], .agg #[.int .i64 N, .slice (some ⟨g, 0, none⟩) l.length c], .agg #[.slice ba bs.length bc, .slice ca C.length cc], .agg #[.slice xa bs.length xc, .slice ya C.length yc], undef, .pointer (some ⟨p + 1 + 1, 3, none⟩), .slice wa ws.length wk, undef, undef, undef, undef, undef, undef, undef, undef, undef, undef, undef, undef, undef, undef, undef, undef, undef, undef, undef, undef, undef, undef, undef, undef, undef, undef, undef, undef, undef, undef, undef, undef, undef, undef, undef, undef, undef, undef, undef, undef, undef, undef, undef, undef, undef, undef, undef, undef, undef, undef, undef, undef, undef, undef, undef, undef, undef, undef, undef, undef, undef, undef, undef, undef, undef, undef, undef, undef, undef, undef, undef, undef, undef, undef, undef, undef, undef, undef, undef, undef, undef, undef, undef, undef, undef, undef, undef, undef, undef, undef, undef] w := by
      intro g c xa xc ya Y yc bg w HB HG HC H8
      refine (hG _ _ _ _).2 ?_
      refine wpAnyH_ready (rs := [4, 9]) (by kernel_rfl) (by simp) ?_
      refine AllReadyH.cons rfl (fun K hK => ?_) (AllReadyH.cons rfl (fun K hK => ?_) (AllReadyH.nil))
      · skip
        go_simp
        have hbn : Below w.heap.size w (w.alloc (.cells #[] 66)) := (Below.refl _ _).alloc (Nat.le_refl _) _
        have NL : Hid ((w.alloc (.cells #[] 66)).ownsRow W0.heap.size 66 1 (.slice (some ⟨w.heap.size, 0, none⟩) 0 0) 0 []) := World.ownsRow_lit (base := W0.heap.size) (e := 66) (size := 1) w #[] 0 HB.out.size (by decide) rfl
        have NB : Hid (Below W0.heap.size W0 (w.alloc (.cells #[] 66))) := HB.out.trans (hbn.mono HB.out.size)
        have NG : Hid ((l.length < c ∧ c ≤ 9223372036854775807) ∧ ∃ B, (w.alloc (.cells #[] 66)).ownsRow B 68 3 (.slice (some ⟨g, 0, none⟩) (l.length + 1) c) (l.length + 1) (cellsA (l ++ [A.mark]))) := ⟨HG.out.1, HG.out.2.imp (fun _ h => own_on h hbn)⟩
        have NC : Hid (∃ B, CpO (w.alloc (.cells #[] 66)) B xa bs xc ya Y C yc) := HC.out.imp (fun _ h => h.on hbn)
        have N8 : Hid ((w.alloc (.cells #[] 66)).heap[bg]? = some (.cells #[.int .i64 0, .slice none 0 0] 24) ∧ W0.heap.size ≤ bg) := ⟨(hbn.block _ (lt_of_block H8.out.1)).trans H8.out.1, H8.out.2⟩
        refine hK.out _ _ (HSS.out _ NB.out) (fun _ => ?_)
        clear hK K
        try simp only [List.setIfInBounds_toArray, List.set_cons_zero, List.set_cons_succ]
        exact (hG _ _ _ _).1 (H21100 g c xa xc ya Y yc _ bg _ NB NG NC NL N8)
      · skip
        go_simp
        have hbn : Below w.heap.size w (w.alloc (.cells #[.slice none 0 0, .slice none 0 0] 28)) := (Below.refl _ _).alloc (Nat.le_refl _) _
        have N9 : Hid ((w.alloc (.cells #[.slice none 0 0, .slice none 0 0] 28)).heap[w.heap.size]? = some (.cells #[.slice none 0 0, .slice none 0 0] 28) ∧ W0.heap.size ≤ w.heap.size) := ⟨heap_top w _, HB.out.size⟩
        have NNE : Hid (bg ≠ w.heap.size) := fun h => by have := lt_of_block H8.out.1; omega
        have NB : Hid (Below W0.heap.size W0 (w.alloc (.cells #[.slice none 0 0, .slice none 0 0] 28))) := HB.out.trans (hbn.mono HB.out.size)
        have NG : Hid ((l.length < c ∧ c ≤ 9223372036854775807) ∧ ∃ B, (w.alloc (.cells #[.slice none 0 0, .slice none 0 0] 28)).ownsRow B 68 3 (.slice (some ⟨g, 0, none⟩) (l.length + 1) c) (l.length + 1) (cellsA (l ++ [A.mark]))) := ⟨HG.out.1, HG.out.2.imp (fun _ h => own_on h hbn)⟩
        have NC : Hid (∃ B, CpO (w.alloc (.cells #[.slice none 0 0, .slice none 0 0] 28)) B xa bs xc ya Y C yc) := HC.out.imp (fun _ h => h.on hbn)
        have N8 : Hid ((w.alloc (.cells #[.slice none 0 0, .slice none 0 0] 28)).heap[bg]? = some (.cells #[.int .i64 0, .slice none 0 0] 24) ∧ W0.heap.size ≤ bg) := ⟨(hbn.block _ (lt_of_block H8.out.1)).trans H8.out.1, H8.out.2⟩
        refine hK.out _ _ (HSS.out _ NB.out) (fun _ => ?_)
        clear hK K
        try simp only [List.setIfInBounds_toArray, List.set_cons_zero, List.set_cons_succ]
        exact (hG _ _ _ _).1 (H20110 g c xa xc ya Y yc bg _ _ NB NG NC N8 N9 NNE)
    have H20010 : ∀ (g c : Nat) (xa : Option Addr) (xc : Nat) (ya : Option Addr) (Y : List Cl) (yc : Nat) (bn : Nat) (w : World), Hid (Below W0.heap.size W0 w) → Hid ((l.length < c ∧ c ≤ 9223372036854775807) ∧ ∃ B, w.ownsRow B 68 3 (.slice (some ⟨g, 0, none⟩) (l.length + 1) c) (l.length + 1) (cellsA (l ++ [A.mark]))) → Hid (∃ B, CpO w B xa bs xc ya Y C yc) → Hid (w.heap[bn]? = some (.cells #[.slice none 0 0, .slice none 0 0] 28) ∧ W0.heap.size ≤ bn) → G 6 #[true, true, true, true, false, true, true, false, false, true, false, false, false] #[.agg #[.int .i64 N, .slice a l.length cap], .agg #[.slice ba bs.length bc, .slice ca C.length cc], .agg #[.int .i64 lv, .int .i64 ce, .int .i64 ep, .slice wa ws.length wk, x], .pointer (some ⟨p, 0, none⟩), .pointer (some ⟨p + 1, 0, none⟩), .pointer (some ⟨p + 1 + 1, 0, none⟩), .bool false, undef, .pointer (some ⟨bn, 0, none⟩), undef, undef, undef, undef, undef, undef, undef, undef, undef, .agg #[.int .i64 N, .slice a l.length cap], .bool false, undef, .agg #[.int .i64 N, .slice a l.length cap], .agg #[.int .i64 N, .slice (some ⟨g, 0, none⟩) l.length c], .agg #[.slice ba bs.length bc, .slice ca C.length cc], .agg #[.slice xa bs.length xc, .slice ya C.length yc], undef, .pointer (some ⟨p + 1 + 1, 3, none⟩), .slice wa ws.length wk, undef, undef, undef, undef, undef, undef, undef, undef, undef, undef, undef, undef, undef, undef, undef, undef, undef, undef, undef, undef, undef, undef, undef, undef, undef, undef, undef, undef, undef, undef, undef, undef, undef, undef, undef, undef, undef, undef, undef, undef, undef, undef, undef, undef, undef, undef, undef, undef, undef, undef, undef, undef, undef, undef, undef, undef, undef, undef, undef, undef, undef, undef, undef, undef, undef, undef, undef, undef, undef, undef, undef, undef, undef, undef, undef, undef, undef, undef, undef, undef, undef, undef, undef, undef, undef, undef, undef, undef, undef, undef, undef] w := by
      intro g c xa xc ya Y yc bn w HB HG HC H9
      refine (hG _ _ _ _).2 ?_
      refine wpAnyH_ready (rs := [4, 8]) (by kernel_rfl) (by simp) ?_
      refine AllReadyH.cons rfl (fun K hK => ?_) (AllReadyH.cons rfl (fun K hK => ?_) (AllReadyH.nil))
      · skip
        go_simp
        have hbn : Below w.heap.size w (w.alloc (.cells #[] 66)) := (Below.refl _ _).alloc (Nat.le_refl _) _
        have NL : Hid ((w.alloc (.cells #[] 66)).ownsRow W0.heap.size 66 1 (.slice (some ⟨w.heap.size, 0, none⟩) 0 0) 0 []) := World.ownsRow_lit (base := W0.heap.size) (e := 66) (size := 1) w #[] 0 HB.out.size (by decide) rfl
        have NB : Hid (Below W0.heap.size W0 (w.alloc (.cells #[] 66))) := HB.out.trans (hbn.mono HB.out.size)
        have NG : Hid ((l.length < c ∧ c ≤ 9223372036854775807) ∧ ∃ B, (w.alloc (.cells #[] 66)).ownsRow B 68 3 (.slice (some ⟨g, 0, none⟩) (l.length + 1) c) (l.length + 1) (cellsA (l ++ [A.mark]))) := ⟨HG.out.1, HG.out.2.imp (fun _ h => own_on h hbn)⟩
        have NC : Hid (∃ B, CpO (w.alloc (.cells #[] 66)) B xa bs xc ya Y C yc) := HC.out.imp (fun _ h => h.on hbn)
        have N9 : Hid ((w.alloc (.cells #[] 66)).heap[bn]? = some (.cells #[.slice none 0 0, .slice none 0 0] 28) ∧ W0.heap.size ≤ bn) := ⟨(hbn.block _ (lt_of_block H9.out.1)).trans H9.out.1, H9.out.2⟩
        refine hK.out _ _ (HSS.out _ NB.out) (fun _ => ?_)
        clear hK K
        try simp only [List.setIfInBounds_toArray, List.set_cons_zero, List.set_cons_succ]
        exact (hG _ _ _ _).1 (H21010 g c xa xc ya Y yc _ bn _ NB NG NC NL N9)
      · skip
        go_simp
        have hbn : Below w.heap.size w (w.alloc (.cells #[.int .i64 0, .slice none 0 0] 24)) := (Below.refl _ _).alloc (Nat.le_refl _) _
        have N8 : Hid ((w.alloc (.cells #[.int .i64 0, .slice none 0 0] 24)).heap[w.heap.size]? = some (.cells #[.int .i64 0, .slice none 0 0] 24) ∧ W0.heap.size ≤ w.heap.size) := ⟨heap_top w _, HB.out.size⟩
        have NNE : Hid (w.heap.size ≠ bn) := fun h => by have := lt_of_block H9.out.1; omega
        have NB : Hid (Below W0.heap.size W0 (w.alloc (.cells #[.int .i64 0, .slice none 0 0] 24))) := HB.out.trans (hbn.mono HB.out.size)
        have NG : Hid ((l.length < c ∧ c ≤ 9223372036854775807) ∧ ∃ B, (w.alloc (.cells #[.int .i64 0, .slice none 0 0] 24)).ownsRow B 68 3 (.slice (some ⟨g, 0, none⟩) (l.length + 1) c) (l.length + 1) (cellsA (l ++ [A.mark]))) := ⟨HG.out.1, HG.out.2.imp (fun _ h => own_on h hbn)⟩
        have NC : Hid (∃ B, CpO (w.alloc (.cells #[.int .i64 0, .slice none 0 0] 24)) B xa bs xc ya Y C yc) := HC.out.imp (fun _ h => h.on hbn)
        have N9 : Hid ((w.alloc (.cells #[.int .i64 0, .slice none 0 0] 24)).heap[bn]? = some (.cells #[.slice none 0 0, .slice none 0 0] 28) ∧ W0.heap.size ≤ bn) := ⟨(hbn.block _ (lt_of_block H9.out.1)).trans H9.out.1, H9.out.2⟩
        refine hK.out _ _ (HSS.out _ NB.out) (fun _ => ?_)
        clear hK K
        try simp only [List.setIfInBounds_toArray, List.set_cons_zero, List.set_cons_succ]
        exact (hG _ _ _ _).1 (H20110 g c xa xc ya Y yc _ bn _ NB NG NC N8 N9 NNE)
    have H20000 : ∀ (g c : Nat) (xa : Option Addr) (xc : Nat) (ya : Option Addr) (Y : List Cl) (yc : Nat) (w : World), Hid (Below W0.heap.size W0 w) → Hid ((l.length < c ∧ c ≤ 9223372036854775807) ∧ ∃ B, w.ownsRow B 68 3 (.slice (some ⟨g, 0, none⟩) (l.length + 1) c) (l.length + 1) (cellsA (l ++ [A.mark]))) → Hid (∃ B, CpO w B xa bs xc ya Y C yc) → G 7 #[true, true, true, true, false, true, true, false, false, false, false, false, false] #[.agg #[.int .i64 N, .slice a l.length cap], .agg #[.slice ba bs.length bc, .slice ca C.length cc], .agg #[.int .i64 lv, .int .i64 ce, .int .i64 ep, .slice wa ws.length wk, x], .pointer (some ⟨p, 0, none⟩), .pointer (some ⟨p + 1, 0, none⟩), .pointer (some ⟨p + 1 + 1, 0, none⟩), .bool false, undef, undef, undef, undef, undef, undef, undef, undef, undef, undef, undef, .agg #[.int .i64 N, .slice a l.length cap], .bool false, undef, .agg #[.int .i64 N, .slice a l.length cap], .agg #[.int .i64 N, .slice (some ⟨g, 0, none⟩) l.length c], .agg #[.slice ba bs.length bc, .slice ca C.length cc], .agg #[.slice xa bs.length xc, .slice ya C.length yc], undef, .pointer (some ⟨p + 1 + 1, 3, none⟩), .slice wa ws.length wk, undef, undef, undef, undef, undef, undef, undef, undef, undef, undef, undef, undef, undef, undef, undef, undef, undef, undef, undef, undef, undef, undef, undef, undef, undef, undef, undef, undef, undef, undef, undef, undef, undef, undef, undef, undef, undef, undef, undef, undef, undef, undef, undef, undef, undef, undef, undef, undef, undef, undef, undef, undef, undef, undef, undef, undef, undef, undef, undef, undef, undef, undef, undef, undef, undef, undef, undef, undef, undef, undef, undef, undef, undef, undef, undef, undef, undef, undef, undef, undef, undef, undef, undef, undef, undef, undef, undef, undef, undef, undef, undef] w := by
      intro g c xa xc ya Y yc w HB HG HC
      refine (hG _ _ _ _).2 ?_
      refine wpAnyH_ready (rs := [4, 8, 9]) (by kernel_rfl) (by simp) ?_
      refine AllReadyH.cons rfl (fun K hK => ?_) (AllReadyH.cons rfl (fun K hK => ?_) (AllReadyH.cons rfl (fun K hK => ?_) (AllReadyH.nil)))
      · skip
        go_simp
        have hbn : Below w.heap.size w (w.alloc (.cells #[] 66)) := (Below.refl _ _).alloc (Nat.le_refl _) _
        have NL : Hid ((w.alloc (.cells #[] 66)).ownsRow W0.heap.size 66 1 (.slice (some ⟨w.heap.size, 0, none⟩) 0 0) 0 []) := World.ownsRow_lit (base := W0.heap.size) (e := 66) (size := 1) w #[] 0 HB.out.size (by decide) rfl
        have NB : Hid (Below W0.heap.size W0 (w.alloc (.cells #[] 66))) := HB.out.trans (hbn.mono HB.out.size)
        have NG : Hid ((l.length < c ∧ c ≤ 9223372036854775807) ∧ ∃ B, (w.alloc (.cells #[] 66)).ownsRow B 68 3 (.slice (some ⟨g, 0, none⟩) (l.length + 1) c) (l.length + 1) (cellsA (l ++ [A.mark]))) := ⟨HG.out.1, HG.out.2.imp (fun _ h => own_on h hbn)⟩
        have NC : Hid (∃ B, CpO (w.alloc (.cells #[] 66)) B xa bs xc ya Y C yc) := HC.out.imp (fun _ h => h.on hbn)
        refine hK.out _ _ (HSS.out _ NB.out) (fun _ => ?_)
        clear hK K
        try simp only [List.setIfInBounds_toArray, List.set_cons_zero, List.set_cons_succ]
        exact (hG _ _ _ _).1 (H21000 g c xa xc ya Y yc _ _ NB NG NC NL)
      · skip
        go_simp
        have hbn : Below w.heap.size w (w.alloc (.cells #[.int .i64 0, .slice none 0 0] 24)) := (Below.refl _ _).alloc (Nat.le_refl _) _
        have N8 : Hid ((w.alloc (.cells #[.int .i64 0, .slice none 0 0] 24)).heap[w.heap.size]? = some (.cells #[.int .i64 0, .slice none 0 0] 24) ∧ W0.heap.size ≤ w.heap.size) := ⟨heap_top w _, HB.out.size⟩
        have NB : Hid (Below W0.heap.size W0 (w.alloc (.cells #[.int .i64 0, .slice none 0 0] 24))) := HB.out.trans (hbn.mono HB.out.size)
        have NG : Hid ((l.length < c ∧ c ≤ 9223372036854775807) ∧ ∃ B, (w.alloc (.cells #[.int .i64 0, .slice none 0 0] 24)).ownsRow B 68 3 (.slice (some ⟨g, 0, none⟩) (l.length + 1) c) (l.length + 1) (cellsA (l ++ [A.mark]))) := ⟨HG.out.1, HG.out.2.imp (fun _ h => own_on h hbn)⟩
        have NC : Hid (∃ B, CpO (w.alloc (.cells #[.int .i64 0, .slice none 0 0] 24)) B xa bs xc ya Y C yc) := HC.out.imp (fun _ h => h.on hbn)
        refine hK.out _ _ (HSS.out _ NB.out) (fun _ => ?_)
        clear hK K
        try simp only [List.setIfInBounds_toArray, List.set_cons_zero, List.set_cons_succ]
        exact (hG _ _ _ _).1 (H20100 g c xa xc ya Y yc _ _ NB NG NC N8)
      · skip
        go_simp
        have hbn : Below w.heap.size w (w.alloc (.cells #[.slice none 0 0, .slice none 0 0] 28)) := (Below.refl _ _).alloc (Nat.le_refl _) _
        have N9 : Hid ((w.alloc (.cells #[.slice none 0 0, .slice none 0 0] 28)).heap[w.heap.size]? = some (.cells #[.slice none 0 0, .slice none 0 0] 28) ∧ W0.heap.size ≤ w.heap.size) := ⟨heap_top w _, HB.out.size⟩
        have NB : Hid (Below W0.heap.size W0 (w.alloc (.cells #[.slice none 0 0, .slice none 0 0] 28))) := HB.out.trans (hbn.mono HB.out.size)
        have NG : Hid ((l.length < c ∧ c ≤ 9223372036854775807) ∧ ∃ B, (w.alloc (.cells #[.slice none 0 0, .slice none 0 0] 28)).ownsRow B 68 3 (.slice (some ⟨g, 0, none⟩) (l.length + 1) c) (l.length + 1) (cellsA (l ++ [A.mark]))) := ⟨HG.out.1, HG.out.2.imp (fun _ h => own_on h hbn)⟩
        have NC : Hid (∃ B, CpO (w.alloc (.cells #[.slice none 0 0, .slice none 0 0] 28)) B xa bs xc ya Y C yc) := HC.out.imp (fun _ h => h.on hbn)
        refine hK.out _ _ (HSS.out _ NB.out) (fun _ => ?_)
        clear hK K
        try simp only [List.setIfInBounds_toArray, List.set_cons_zero, List.set_cons_succ]
        exact (hG _ _ _ _).1 (H20010 g c xa xc ya Y yc _ _ NB NG NC N9)
    have H11110 : ∀ (g c : Nat) (b4 : Nat) (bg : Nat) (bn : Nat) (w : World), Hid (Below W0.heap.size W0 w) → Hid ((l.length < c ∧ c ≤ 9223372036854775807) ∧ ∃ B, w.ownsRow B 68 3 (.slice (some ⟨g, 0, none⟩) (l.length + 1) c) (l.length + 1) (cellsA (l ++ [A.mark]))) → Hid (w.ownsRow W0.heap.size 66 1 (.slice (some ⟨b4, 0, none⟩) 0 0) 0 []) → Hid (w.heap[bg]? = some (.cells #[.int .i64 0, .slice none 0 0] 24) ∧ W0.heap.size ≤ bg) → Hid (w.heap[bn]? = some (.cells #[.slice none 0 0, .slice none 0 0] 28) ∧ W0.heap.size ≤ bn) → Hid (bg ≠ bn) → G 5 #[true, true, true, false, true, true, true, false, true, true, false, false, false] #[.agg #[.int .i64 N, .slice a l.length cap], .agg #[.slice ba bs.length bc, .slice ca C.length cc], .agg #[.int .i64 lv, .int .i64 ce, .int .i64 ep, .slice wa ws.length wk, x], .pointer (some ⟨p, 0, none⟩), .pointer (some ⟨p + 1, 0, none⟩), .pointer (some ⟨p + 1 + 1, 0, none⟩), .bool false, .pointer (some ⟨bg, 0, none⟩), .pointer (some ⟨bn, 0, none⟩), undef, undef, undef, undef, undef, undef, undef, undef, undef, .agg #[.int .i64 N, .slice a l.length cap], .bool false, undef, .agg #[.int .i64 N, .slice a l.length cap], .agg #[.int .i64 N, .slice (some ⟨g, 0, none⟩) l.length c], .agg #[.slice ba bs.length bc, .slice ca C.length cc], undef, .slice (some ⟨b4, 0, none⟩) 0 0, .pointer (some ⟨p + 1 + 1, 3, none⟩), .slice wa ws.length wk, undef, undef, undef, undef, undef, undef, undef, undef, undef, undef, undef, undef, undef, undef, undef, undef, undef, undef, undef, undef, undef, undef, undef, undef, undef, undef, undef, undef, undef, undef, undef, undef, undef, undef, undef, undef, undef, undef, undef, undef, undef, undef, undef, undef, undef, undef, undef, undef, undef, undef, undef, undef, undef, undef, undef, undef, undef, undef, undef, undef, undef, undef, undef, undef, undef, undef, undef, undef, undef, undef, undef, undef, undef, undef, undef, undef, undef, undef, undef, undef, undef, undef, undef, undef, undef, undef, undef, undef, undef, undef, undef] w := by
      intro g c b4 bg bn w HB HG HL H8 H9 HNE
      refine (hG _ _ _ _).2 ?_
      refine wpAnyH_ready (rs := [3]) (by kernel_rfl) (by simp) ?_
      refine AllReadyH.cons rfl (fun K hK => ?_) (AllReadyH.nil)
      · skip
        rw [if_pos (by rfl)]
        go_simp
        refine (HCN.out w HB.out).mono ?_
        rintro e w' ⟨xa, xc, ya, Y, yc, rfl, hcpo, hbn⟩
        have NC : Hid (∃ B, CpO w' B xa bs xc ya Y C yc) := ⟨_, hcpo⟩
        clear hcpo
        have NB : Hid (Below W0.heap.size W0 w') := HB.out.trans (hbn.mono HB.out.size)
        have NG : Hid ((l.length < c ∧ c ≤ 9223372036854775807) ∧ ∃ B, w'.ownsRow B 68 3 (.slice (some ⟨g, 0, none⟩) (l.length + 1) c) (l.length + 1) (cellsA (l ++ [A.mark]))) := ⟨HG.out.1, HG.out.2.imp (fun _ h => own_on h hbn)⟩
        have NL : Hid (w'.ownsRow W0.heap.size 66 1 (.slice (some ⟨b4, 0, none⟩) 0 0) 0 []) := own_on HL.out hbn
        have N8 : Hid (w'.heap[bg]? = some (.cells #[.int .i64 0, .slice none 0 0] 24) ∧ W0.heap.size ≤ bg) := ⟨(hbn.block _ (lt_of_block H8.out.1)).trans H8.out.1, H8.out.2⟩
        have N9 : Hid (w'.heap[bn]? = some (.cells #[.slice none 0 0, .slice none 0 0] 28) ∧ W0.heap.size ≤ bn) := ⟨(hbn.block _ (lt_of_block H9.out.1)).trans H9.out.1, H9.out.2⟩
        refine hK.out _ _ (HSS.out _ NB.out) (fun _ => ?_)
        clear hK K
        try simp only [List.setIfInBounds_toArray, List.set_cons_zero, List.set_cons_succ]
        exact (hG _ _ _ _).1 (H21110 g c xa xc ya Y yc b4 bg bn _ NB NG NC NL N8 N9 HNE)
    have H11100 : ∀ (g c : Nat) (b4 : Nat) (bg : Nat) (w : World), Hid (Below W0.heap.size W0 w) → Hid ((l.length < c ∧ c ≤ 9223372036854775807) ∧ ∃ B, w.ownsRow B 68 3 (.slice (some ⟨g, 0, none⟩) (l.length + 1) c) (l.length + 1) (cellsA (l ++ [A.mark]))) → Hid (w.ownsRow W0.heap.size 66 1 (.slice (some ⟨b4, 0, none⟩) 0 0) 0 []) → Hid (w.heap[bg]? = some (.cells #[.int .i64 0, .slice none 0 0] 24) ∧ W0.heap.size ≤ bg) → G 6 #[true, true, true, false, true, true, true, false, true, false, false, false, false] #[.agg #[.int .i64 N, .slice a l.length cap], .agg #[.slice ba bs.length bc, .slice ca C.length cc], .agg #[.int .i64 lv, .int .i64 ce, .int .i64 ep, .slice wa ws.length wk, x], .pointer (some ⟨p, 0, none⟩), .pointer (some ⟨p + 1, 0, none⟩), .pointer (some ⟨p + 1 + 1, 0, none⟩), .bool false, .pointer (some ⟨bg, 0, none⟩), undef, undef, undef, undef, undef, undef, undef, undef, undef, undef, .agg #[.int .i64 N, .slice a l.length cap], .bool false, undef, .agg #[.int .i64 N, .slice a l.length cap], .agg #[.int .i64 N, .slice (some ⟨g, 0, none⟩) l.length c], .agg #[.slice ba bs.length bc, .slice ca C.length cc], undef, .slice (some ⟨b4, 0, none⟩) 0 0, .pointer (some ⟨p + 1 + 1, 3, none⟩), .slice wa ws.length wk, undef, undef, undef, undef, undef, undef, undef, undef, undef, undef, undef, undef, undef, undef, undef, undef, undef, undef, undef, undef, undef, undef, undef, undef, undef, undef, undef, undef, undef, undef, undef, undef, undef, undef, undef, undef, undef, undef, undef, undef, undef, undef, undef, undef, undef, undef, undef, undef, undef, undef, undef, undef, undef, undef, undef, undef, undef, undef, undef, undef, undef, undef, undef, undef, undef, undef, undef, undef, undef, undef, undef, undef, undef, undef, undef, undef, undef, undef, undef, undef, undef, undef, undef, undef, undef, undef, undef, undef, undef, undef, undef] w := by
      intro g c b4 bg w HB HG HL H8
      refine (hG _ _ _ _).2 ?_
      refine wpAnyH_ready (rs := [3, 9]) (by kernel_rfl) (by simp) ?_
      refine AllReadyH.cons rfl (fun K hK => ?_) (AllReadyH.cons rfl (fun K hK => ?_) (AllReadyH.nil))
      · skip
        rw [if_pos (by rfl)]
        go_simp
        refine (HCN.out w HB.out).mono ?_
        rintro e w' ⟨xa, xc, ya, Y, yc, rfl, hcpo, hbn⟩
        have NC : Hid (∃ B, CpO w' B xa bs xc ya Y C yc) := ⟨_, hcpo⟩
        clear hcpo
        have NB : Hid (Below W0.heap.size W0 w') := HB.out.trans (hbn.mono HB.out.size)
        have NG : Hid ((l.length < c ∧ c ≤ 9223372036854775807) ∧ ∃ B, w'.ownsRow B 68 3 (.slice (some ⟨g, 0, none⟩) (l.length + 1) c) (l.length + 1) (cellsA (l ++ [A.mark]))) := ⟨HG.out.1, HG.out.2.imp (fun _ h => own_on h hbn)⟩
        have NL : Hid (w'.ownsRow W0.heap.size 66 1 (.slice (some ⟨b4, 0, none⟩) 0 0) 0 []) := own_on HL.out hbn
        have N8 : Hid (w'.heap[bg]? = some (.cells #[.int .i64 0, .slice none 0 0] 24) ∧ W0.heap.size ≤ bg) := ⟨(hbn.block _ (lt_of_block H8.out.1)).trans H8.out.1, H8.out.2⟩
        refine hK.out _ _ (HSS.out _ NB.out) (fun _ => ?_)
        clear hK K
        try simp only [List.setIfInBounds_toArray, List.set_cons_zero, List.set_cons_succ]
        exact (hG _ _ _ _).1 (H21100 g c xa xc ya Y yc b4 bg _ NB NG NC NL N8)
      · skip
        go_simp
        have hbn : Below w.heap.size w (w.alloc (.cells #[.slice none 0 0, .slice none 0 0] 28)) := (Below.refl _ _).alloc (Nat.le_refl _) _
        have N9 : Hid ((w.alloc (.cells #[.slice none 0 0, .slice none 0 0] 28)).heap[w.heap.size]? = some (.cells #[.slice none 0 0, .slice none 0 0] 28) ∧ W0.heap.size ≤ w.heap.size) := ⟨heap_top w _, HB.out.size⟩
        have NNE : Hid (bg ≠ w.heap.size) := fun h => by have := lt_of_block H8.out.1; omega
        have NB : Hid (Below W0.heap.size W0 (w.alloc (.cells #[.slice none 0 0, .slice none 0 0] 28))) := HB.out.trans (hbn.mono HB.out.size)
        have NG : Hid ((l.length < c ∧ c ≤ 9223372036854775807) ∧ ∃ B, (w.alloc (.cells #[.slice none 0 0, .slice none 0 0] 28)).ownsRow B 68 3 (.slice (some ⟨g, 0, none⟩) (l.length + 1) c) (l.length + 1) (cellsA (l ++ [A.mark]))) := ⟨HG.out.1, HG.out.2.imp (fun _ h => own_on h hbn)⟩
        have NL : Hid ((w.alloc (.cells #[.slice none 0 0, .slice none 0 0] 28)).ownsRow W0.heap.size 66 1 (.slice (some ⟨b4, 0, none⟩) 0 0) 0 []) := own_on HL.out hbn
        have N8 : Hid ((w.alloc (.cells #[.slice none 0 0, .slice none 0 0] 28)).heap[bg]? = some (.cells #[.int .i64 0, .slice none 0 0] 24) ∧ W0.heap.size ≤ bg) := ⟨(hbn.block _ (lt_of_block H8.out.1)).trans H8.out.1, H8.out.2⟩
        refine hK.out _ _ (HSS.out _ NB.out) (fun _ => ?_)
        clear hK K
        try simp only [List.setIfInBounds_toArray, List.set_cons_zero, List.set_cons_succ]
        exact (hG _ _ _ _).1 (H11110 g c b4 bg _ _ NB NG NL N8 N9 NNE)
    have H11010 : ∀ (g c : Nat) (b4 : Nat) (bn : Nat) (w : World), Hid (Below W0.heap.size W0 w) → Hid ((l.length < c ∧ c ≤ 9223372036854775807) ∧ ∃ B, w.ownsRow B 68 3 (.slice (some ⟨g, 0, none⟩) (l.length + 1) c) (l.length + 1) (cellsA (l ++ [A.mark]))) → Hid (w.ownsRow W0.heap.size 66 1 (.slice (some ⟨b4, 0, none⟩) 0 0) 0 []) → Hid (w.heap[bn]? = some (.cells #[.slice none 0 0, .slice none 0 0] 28) ∧ W0.heap.size ≤ bn) → G 6 #[true, true, true, false, true, true, true, false, false, true, false, false, false] #[.agg #[.int .i64 N, .slice a l.length cap], .agg #[.slice ba bs.length bc, .slice ca C.length cc], .agg #[.int .i64 lv, .int .i64 ce, .int .i64 ep, .slice wa ws.length wk, x], .pointer (some ⟨p, 0, none⟩), .pointer (some ⟨p + 1, 0, none⟩), .pointer (some ⟨p + 1 + 1, 0, none⟩), .bool false, undef, .pointer (some ⟨bn, 0, none⟩), undef, undef, undef, undef, undef, undef, undef, undef, undef, .agg #[.int .i64 N, .slice a l.length cap], .bool false, undef, .agg #[.int .i64 N, .slice a l.length cap], .agg #[.int .i64 N, .slice (some ⟨g, 0, none⟩) l.length c], .agg #[.slice ba bs.length bc, .slice ca C.length cc], undef, .slice (some ⟨b4, 0, none⟩) 0 0, .pointer (some ⟨p + 1 + 1, 3, none⟩), .slice wa ws.length wk, undef, undef, undef, undef, undef, undef, undef, undef, undef, undef, undef, undef, undef, undef, undef, undef, undef, undef, undef, undef, undef, undef, undef, undef, undef, undef, undef, undef, undef, undef, undef, undef, undef, undef, undef, undef, undef, undef, undef, undef, undef, undef, undef, undef, undef, undef, undef, undef, undef, undef, undef, undef, undef, undef, undef, undef, undef, undef, undef, undef, undef, undef, undef, undef, undef, undef, undef, undef, undef, undef, undef, undef, undef, undef, undef, undef, undef, undef, undef, undef, undef, undef, undef, undef, undef, undef, undef, undef, undef, undef, undef] w := by
      intro g c b4 bn w HB HG HL H9
      refine (hG _ _ _ _).2 ?_
      refine wpAnyH_ready (rs := [3, 8]) (by kernel_rfl) (by simp) ?_
      refine AllReadyH.cons rfl (fun K hK => ?_) (AllReadyH.cons rfl (fun K hK => ?_) (AllReadyH.nil))
      · skip
        rw [if_pos (by rfl)]
        go_simp
        refine (HCN.out w HB.out).mono ?_
        rintro e w' ⟨xa, xc, ya, Y, yc, rfl, hcpo, hbn⟩
        have NC : Hid (∃ B, CpO w' B xa bs xc ya Y C yc) := ⟨_, hcpo⟩
        clear hcpo
        have NB : Hid (Below W0.heap.size W0 w') := HB.out.trans (hbn.mono HB.out.size)
        have NG : Hid ((l.length < c ∧ c ≤ 9223372036854775807) ∧ ∃ B, w'.ownsRow B 68 3 (.slice (some ⟨g, 0, none⟩) (l.length + 1) c) (l.length + 1) (cellsA (l ++ [A.mark]))) := ⟨HG.out.1, HG.out.2.imp (fun _ h => own_on h hbn)⟩
        have NL : Hid (w'.ownsRow W0.heap.size 66 1 (.slice (some ⟨b4, 0, none⟩) 0 0) 0 []) := own_on HL.out hbn
        have N9 : Hid (w'.heap[bn]? = some (.cells #[.slice none 0 0, .slice none 0 0] 28) ∧ W0.heap.size ≤ bn) := ⟨(hbn.block _ (lt_of_block H9.out.1)).trans H9.out.1, H9.out.2⟩
        refine hK.out _ _ (HSS.out _ NB.out) (fun _ => ?_)
        clear hK K
        try simp only [List.setIfInBounds_toArray, List.set_cons_zero, List.set_cons_succ]
        exact (hG _ _ _ _).1 (H21010 g c xa xc ya Y yc b4 bn _ NB NG NC NL N9)
      · skip
        go_simp
        have hbn : Below w.heap.size w (w.alloc (.cells #[.int .i64 0, .slice none 0 0] 24)) := (Below.refl _ _).alloc (Nat.le_refl _) _
        have N8 : Hid ((w.alloc (.cells #[.int .i64 0, .slice none 0 0] 24)).heap[w.heap.size]? = some (.cells #[.int .i64 0, .slice none 0 0] 24) ∧ W0.heap.size ≤ w.heap.size) := ⟨heap_top w _, HB.out.size⟩
        have NNE : Hid (w.heap.size ≠ bn) := fun h => by have := lt_of_block H9.out.1; omega
        have NB : Hid (Below W0.heap.size W0 (w.alloc (.cells #[.int .i64 0, .slice none 0 0] 24))) := HB.out.trans (hbn.mono HB.out.size)
        have NG : Hid ((l.length < c ∧ c ≤ 9223372036854775807) ∧ ∃ B, (w.alloc (.cells #[.int .i64 0, .slice none 0 0] 24)).ownsRow B 68 3 (.slice (some ⟨g, 0, none⟩) (l.length + 1) c) (l.length + 1) (cellsA (l ++ [A.mark]))) := ⟨HG.out.1, HG.out.2.imp (fun _ h => own_on h hbn)⟩
        have NL : Hid ((w.alloc (.cells #[.int .i64 0, .slice none 0 0] 24)).ownsRow W0.heap.size 66 1 (.slice (some ⟨b4, 0, none⟩) 0 0) 0 []) := own_on HL.out hbn
        have N9 : Hid ((w.alloc (.cells #[.int .i64 0, .slice none 0 0] 24)).heap[bn]? = some (.cells #[.slice none 0 0, .slice none 0 0] 28) ∧ W0.heap.size ≤ bn) := ⟨(hbn.block _ (lt_of_block H9.out.1)).trans H9.out.1, H9.out.2⟩
        refine hK.out _ _ (HSS.out _ NB.out) (fun _ => ?_)
        clear hK K
        try simp only [List.setIfInBounds_toArray, List.set_cons_zero, List.set_cons_succ]
        exact (hG _ _ _ _).1 (H11110 g c b4 _ bn _ NB NG NL N8 N9 NNE)
    have H11000 : ∀ (g c : Nat) (b4 : Nat) (w : World), Hid (Below W0.heap.size W0 w) → Hid ((l.length < c ∧ c ≤ 9223372036854775807) ∧ ∃ B, w.ownsRow B 68 3 (.slice (some ⟨g, 0, none⟩) (l.length + 1) c) (l.length + 1) (cellsA (l ++ [A.mark]))) → Hid (w.ownsRow W0.heap.size 66 1 (.slice (some ⟨b4, 0, none⟩) 0 0) 0 []) → G 7 #[true, true, true, false, true, true, true, false, false, false, false, false, false] #[.agg #[.int .i64 N, .slice a l.length cap], .agg #[.slice ba bs.length bc, .slice ca C.length cc], .agg #[.int .i64 lv, .int .i64 ce, .int .i64 ep, .slice wa ws.length wk, x], .pointer (some ⟨p, 0, none⟩), .pointer (some ⟨p + 1, 0, none⟩), .pointer (some ⟨p + 1 + 1, 0, none⟩), .bool false, undef, undef, undef, undef, undef, undef, undef, undef, undef, undef, undef, .agg #[.int .i64 N, .slice a l.length cap], .bool false, undef, .agg #[.int .i64 N, .slice a l.length cap], .agg #[.int .i64 N, .slice (some ⟨g, 0, none⟩) l.length c], .agg #[.slice ba bs.length bc, .slice ca C.length cc], undef, .slice (some ⟨b4, 0, none⟩) 0 0, .pointer (some ⟨p + 1 + 1, 3, none⟩), .slice wa ws.length wk, undef, undef, undef, undef, undef, undef, undef, undef, undef, undef, undef, undef, undef, undef, undef, undef, undef, undef, undef, undef, undef, undef, undef, undef, undef, undef, undef, undef, undef, undef, undef, undef, undef, undef, undef, undef, undef, undef, undef, undef, undef, undef, undef, undef, undef, undef, undef, undef, undef, undef, undef, undef, undef, undef, undef, undef, undef, undef, undef, undef, undef, undef, undef, undef, undef, undef, undef, undef, undef, undef, undef, undef, undef, undef, undef, undef, undef, undef, undef, undef, undef, undef, undef, undef, undef, undef, undef, undef, undef, undef, undef] w := by
      intro g c b4 w HB HG HL
      refine (hG _ _ _ _).2 ?_
      refine wpAnyH_ready (rs := [3, 8, 9]) (by kernel_rfl) (by simp) ?_
      refine AllReadyH.cons rfl (fun K hK => ?_) (AllReadyH.cons rfl (fun K hK => ?_) (AllReadyH.cons rfl (fun K hK => ?_) (AllReadyH.nil)))
      · skip
        rw [if_pos (by rfl)]
        go_simp
        refine (HCN.out w HB.out).mono ?_
        rintro e w' ⟨xa, xc, ya, Y, yc, rfl, hcpo, hbn⟩
        have NC : Hid (∃ B, CpO w' B xa bs xc ya Y C yc) := ⟨_, hcpo⟩
        clear hcpo
        have NB : Hid (Below W0.heap.size W0 w') := HB.out.trans (hbn.mono HB.out.size)
        have NG : Hid ((l.length < c ∧ c ≤ 9223372036854775807) ∧ ∃ B, w'.ownsRow B 68 3 (.slice (some ⟨g, 0, none⟩) (l.length + 1) c) (l.length + 1) (cellsA (l ++ [A.mark]))) := ⟨HG.out.1, HG.out.2.imp (fun _ h => own_on h hbn)⟩
        have NL : Hid (w'.ownsRow W0.heap.size 66 1 (.slice (some ⟨b4, 0, none⟩) 0 0) 0 []) := own_on HL.out hbn
        refine hK.out _ _ (HSS.out _ NB.out) (fun _ => ?_)
        clear hK K
        try simp only [List.setIfInBounds_toArray, List.set_cons_zero, List.set_cons_succ]
        exact (hG _ _ _ _).1 (H21000 g c xa xc ya Y yc b4 _ NB NG NC NL)
      · skip
        go_simp
        have hbn : Below w.heap.size w (w.alloc (.cells #[.int .i64 0, .slice none 0 0] 24)) := (Below.refl _ _).alloc (Nat.le_refl _) _
        have N8 : Hid ((w.alloc (.cells #[.int .i64 0, .slice none 0 0] 24)).heap[w.heap.size]? = some (.cells #[.int .i64 0, .slice none 0 0] 24) ∧ W0.heap.size ≤ w.heap.size) := ⟨heap_top w _, HB.out.size⟩
        have NB : Hid (Below W0.heap.size W0 (w.alloc (.cells #[.int .i64 0, .slice none 0 0] 24))) := HB.out.trans (hbn.mono HB.out.size)
        have NG : Hid ((l.length < c ∧ c ≤ 9223372036854775807) ∧ ∃ B, (w.alloc (.cells #[.int .i64 0, .slice none 0 0] 24)).ownsRow B 68 3 (.slice (some ⟨g, 0, none⟩) (l.length + 1) c) (l.length + 1) (cellsA (l ++ [A.mark]))) := ⟨HG.out.1, HG.out.2.imp (fun _ h => own_on h hbn)⟩
        have NL : Hid ((w.alloc (.cells #[.int .i64 0, .slice none 0 0] 24)).ownsRow W0.heap.size 66 1 (.slice (some ⟨b4, 0, none⟩) 0 0) 0 []) := own_on HL.out hbn
        refine hK.out _ _ (HSS.out _ NB.out) (fun _ => ?_)
        clear hK K
        try simp only [List.setIfInBounds_toArray, List.set_cons_zero, List.set_cons_succ]
        exact (hG _ _ _ _).1 (H11100 g c b4 _ _ NB NG NL N8)
      · skip
        go_simp
        have hbn : Below w.heap.size w (w.alloc (.cells #[.slice none 0 0, .slice none 0 0] 28)) := (Below.refl _ _).alloc (Nat.le_refl _) _
        have N9 : Hid ((w.alloc (.cells #[.slice none 0 0, .slice none 0 0] 28)).heap[w.heap.size]? = some (.cells #[.slice none 0 0, .slice none 0 0] 28) ∧ W0.heap.size ≤ w.heap.size) := ⟨heap_top w _, HB.out.size⟩
        have NB : Hid (Below W0.heap.size W0 (w.alloc (.cells #[.slice none 0 0, .slice none 0 0] 28))) := HB.out.trans (hbn.mono HB.out.size)
        have NG : Hid ((l.length < c ∧ c ≤ 9223372036854775807) ∧ ∃ B, (w.alloc (.cells #[.slice none 0 0, .slice none 0 0] 28)).ownsRow B 68 3 (.slice (some ⟨g, 0, none⟩) (l.length + 1) c) (l.length + 1) (cellsA (l ++ [A.mark]))) := ⟨HG.out.1, HG.out.2.imp (fun _ h => own_on h hbn)⟩
        have NL : Hid ((w.alloc (.cells #[.slice none 0 0, .slice none 0 0] 28)).ownsRow W0.heap.size 66 1 (.slice (some ⟨b4, 0, none⟩) 0 0) 0 []) := own_on HL.out hbn
        refine hK.out _ _ (HSS.out _ NB.out) (fun _ => ?_)
        clear hK K
        try simp only [List.setIfInBounds_toArray, List.set_cons_zero, List.set_cons_succ]
        exact (hG _ _ _ _).1 (H11010 g c b4 _ _ NB NG NL N9)
    have H10110 : ∀ (g c : Nat) (bg : Nat) (bn : Nat) (w : World), Hid (Below W0.heap.size W0 w) → Hid ((l.length < c ∧ c ≤ 9223372036854775807) ∧ ∃ B, w.ownsRow B 68 3 (.slice (some ⟨g, 0, none⟩) (l.length + 1) c) (l.length + 1) (cellsA (l ++ [A.mark]))) → Hid (w.heap[bg]? = some (.cells #[.int .i64 0, .slice none 0 0] 24) ∧ W0.heap.size ≤ bg) → Hid (w.heap[bn]? = some (.cells #[.slice none 0 0, .slice none 0 0] 28) ∧ W0.heap.size ≤ bn) → Hid (bg ≠ bn) → G 6 #[true, true, true, false, false, true, true, false, true, true, false, false, false] #[.agg #[.int .i64 N, .slice a l.length cap], .agg #[.slice ba bs.length bc, .slice ca C.length cc], .agg #[.int .i64 lv, .int .i64 ce, .int .i64 ep, .slice wa ws.length wk, x], .pointer (some ⟨p, 0, none⟩), .pointer (some ⟨p + 1, 0, none⟩), .pointer (some ⟨p + 1 + 1, 0, none⟩), .bool false, .pointer (some ⟨bg, 0, none⟩), .pointer (some ⟨bn, 0, none⟩), undef, undef, undef, undef, undef, undef, undef, undef, undef, .agg #[.int .i64 N, .slice a l.length cap], .bool false, undef, .agg #[.int .i64 N, .slice a l.length cap], .agg #[.int .i64 N, .slice (some ⟨g, 0, none⟩) l.length c], .agg #[.slice ba bs.length bc, .slice ca C.length cc], undef, undef, .pointer (some ⟨p + 1 + 1, 3, none⟩), .slice wa ws.length wk, undef, undef, undef, undef, undef, undef, undef, undef, undef, undef, undef, undef, undef, undef, undef, undef, undef, undef, undef, undef, undef, undef, undef, undef, undef, undef, undef, undef, undef, undef, undef, undef, undef, undef, undef, undef, undef, undef, undef, undef, undef, undef, undef, undef, undef, undef, undef, undef, undef, undef, undef, undef, undef, undef, undef, undef, undef, undef, undef, undef, undef, undef, undef, undef, undef, undef, undef, undef, undef, undef, undef, undef, undef, undef, undef, undef, undef, undef, undef, undef, undef, undef, undef, undef, undef, undef, undef, undef, undef, undef, undef] w := by
      intro g c bg bn w HB HG H8 H9 HNE
      refine (hG _ _ _ _).2 ?_
      refine wpAnyH_ready (rs := [3, 4]) (by kernel_rfl) (by simp) ?_
      refine AllReadyH.cons rfl (fun K hK => ?_) (AllReadyH.cons rfl (fun K hK => ?_) (AllReadyH.nil))
      · skip
        rw [if_pos (by rfl)]
        go_simp
        refine (HCN.out w HB.out).mono ?_
        rintro e w' ⟨xa, xc, ya, Y, yc, rfl, hcpo, hbn⟩
        have NC : Hid (∃ B, CpO w' B xa bs xc ya Y C yc) := ⟨_, hcpo⟩
        clear hcpo
        have NB : Hid (Below W0.heap.size W0 w') := HB.out.trans (hbn.mono HB.out.size)
        have NG : Hid ((l.length < c ∧ c ≤ 9223372036854775807) ∧ ∃ B, w'.ownsRow B 68 3 (.slice (some ⟨g, 0, none⟩) (l.length + 1) c) (l.length + 1) (cellsA (l ++ [A.mark]))) := ⟨HG.out.1, HG.out.2.imp (fun _ h => own_on h hbn)⟩
        have N8 : Hid (w'.heap[bg]? = some (.cells #[.int .i64 0, .slice none 0 0] 24) ∧ W0.heap.size ≤ bg) := ⟨(hbn.block _ (lt_of_block H8.out.1)).trans H8.out.1, H8.out.2⟩
        have N9 : Hid (w'.heap[bn]? = some (.cells #[.slice none 0 0, .slice none 0 0] 28) ∧ W0.heap.size ≤ bn) := ⟨(hbn.block _ (lt_of_block H9.out.1)).trans H9.out.1, H9.out.2⟩
        refine hK.out _ _ (HSS.out _ NB.out) (fun _ => ?_)
        clear hK K
        try simp only [List.setIfInBounds_toArray, List.set_cons_zero, List.set_cons_succ]
        exact (hG _ _ _ _).1 (H20110 g c xa xc ya Y yc bg bn _ NB NG NC N8 N9 HNE)
      · skip
        go_simp
        have hbn : Below w.heap.size w (w.alloc (.cells #[] 66)) := (Below.refl _ _).alloc (Nat.le_refl _) _
        have NL : Hid ((w.alloc (.cells #[] 66)).ownsRow W0.heap.size 66 1 (.slice (some ⟨w.heap.size, 0, none⟩) 0 0) 0 []) := World.ownsRow_lit (base := W0.heap.size) (e := 66) (size := 1) w #[] 0 HB.out.size (by decide) rfl
        have NB : Hid (Below W0.heap.size W0 (w.alloc (.cells #[] 66))) := HB.out.trans (hbn.mono HB.out.size)
        have NG : Hid ((l.length < c ∧ c ≤ 9223372036854775807) ∧ ∃ B, (w.alloc (.cells #[] 66)).ownsRow B 68 3 (.slice (some ⟨g, 0, none⟩) (l.length + 1) c) (l.length + 1) (cellsA (l ++ [A.mark]))) := ⟨HG.out.1, HG.out.2.imp (fun _ h => own_on h hbn)⟩
        have N8 : Hid ((w.alloc (.cells #[] 66)).heap[bg]? = some (.cells #[.int .i64 0, .slice none 0 0] 24) ∧ W0.heap.size ≤ bg) := ⟨(hbn.block _ (lt_of_block H8.out.1)).trans H8.out.1, H8.out.2⟩
        have N9 : Hid ((w.alloc (.cells #[] 66)).heap[bn]? = some (.cells #[.slice none 0 0, .slice none 0 0] 28) ∧ W0.heap.size ≤ bn) := ⟨(hbn.block _ (lt_of_block H9.out.1)).trans H9.out.1, H9.out.2⟩
        refine hK.out _ _ (HSS.out _ NB.out) (fun _ => ?_)
        clear hK K
        try simp only [List.setIfInBounds_toArray, List.set_cons_zero, List.set_cons_succ]
        exact (hG _ _ _ _).1 (H11110 g c _ bg bn _ NB NG NL N8 N9 HNE)
    have H10100 : ∀ (g c : Nat) (bg : Nat) (w : World), Hid (Below W0.heap.size W0 w) → Hid ((l.length < c ∧ c ≤ 9223372036854775807) ∧ ∃ B, w.ownsRow B 68 3 (.slice (some ⟨g, 0, none⟩) (l.length + 1) c) (l.length + 1) (cellsA (l ++ [A.mark]))) → Hid (w.heap[bg]? = some (.cells #[.int .i64 0, .slice none 0 0] 24) ∧ W0.heap.size ≤ bg) → G 7 #[true, true, true, false, false, true, true, false, true, false, false, false, false] #[.agg #[.int .i64 N, .slice a l.length cap], .agg #[.slice ba bs.length bc, .slice ca C.length cc], .agg #[.int .i64 lv, .int .i64 ce, .int .i64 ep, .slice wa ws.length wk, x], .pointer (some ⟨p, 0, none⟩), .pointer (some ⟨p + 1, 0, none⟩), .pointer (some ⟨p + 1 + 1, 0, none⟩), .bool false, .pointer (some ⟨bg, 0, none⟩), undef, undef, undef, undef, undef, undef, undef, undef, undef, undef, .agg #[.int .i64 N, .slice a l.length cap], .bool false, undef, .agg #[.int .i64 N, .slice a l.length cap], .agg #[.int .i64 N, .slice (some ⟨g, 0, none⟩) l.length c], .agg #[.slice ba bs.length bc, .slice ca C.length cc], undef, undef, .pointer (some ⟨p + 1 + 1, 3, none⟩), .slice wa ws.length wk, undef, undef, undef, undef, undef, undef, undef, undef, undef, undef, undef, undef, undef, undef, undef, undef, undef, undef, undef, undef, undef, undef, undef, undef, undef, undef, undef, undef, undef, undef, undef, undef, undef, undef, undef, undef, undef, undef, undef, undef, undef, undef, undef, undef, undef, undef, undef, undef, undef, undef, undef, undef, undef, undef, undef, undef, undef, undef, undef, undef, undef, undef, undef, undef, undef, undef, undef, undef, undef, undef, undef, undef, undef, undef, undef, undef, undef, undef, undef, undef, undef, undef, undef, undef, undef, undef, undef, undef, undef, undef, undef] w := by
      intro g c bg w HB HG H8
      refine (hG _ _ _ _).2 ?_
      refine wpAnyH_ready (rs := [3, 4, 9]) (by kernel_rfl) (by simp) ?_
      refine AllReadyH.cons rfl (fun K hK => ?_) (AllReadyH.cons rfl (fun K hK => ?_) (AllReadyH.cons rfl (fun K hK => ?_) (AllReadyH.nil)))
      · skip
        rw [if_pos (by rfl)]
        go_simp
        refine (HCN.out w HB.out).mono ?_
        rintro e w' ⟨xa, xc, ya, Y, yc, rfl, hcpo, hbn⟩
        have NC : Hid (∃ B, CpO w' B xa bs xc ya Y C yc) := ⟨_, hcpo⟩
        clear hcpo
        have NB : Hid (Below W0.heap.size W0 w') := HB.out.trans (hbn.mono HB.out.size)
        have NG : Hid ((l.length < c ∧ c ≤ 9223372036854775807) ∧ ∃ B, w'.ownsRow B 68 3 (.slice (some ⟨g, 0, none⟩) (l.length + 1) c) (l.length + 1) (cellsA (l ++ [A.mark]))) := ⟨HG.out.1, HG.out.2.imp (fun _ h => own_on h hbn)⟩
        have N8 : Hid (w'.heap[bg]? = some (.cells #[.int .i64 0, .slice none 0 0] 24) ∧ W0.heap.size ≤ bg) := ⟨(hbn.block _ (lt_of_block H8.out.1)).trans H8.out.1, H8.out.2⟩
        refine hK.out _ _ (HSS.out _ NB.out) (fun _ => ?_)
        clear hK K
        try simp only [List.setIfInBounds_toArray, List.set_cons_zero, List.set_cons_succ]
        exact (hG _ _ _ _).1 (H20100 g c xa xc ya Y yc bg _ NB NG NC N8)
      · skip
        go_simp
        have hbn : Below w.heap.size w (w.alloc (.cells #[] 66)) := (Below.refl _ _).alloc (Nat.le_refl _) _
        have NL : Hid ((w.alloc (.cells #[] 66)).ownsRow W0.heap.size 66 1 (.slice (some ⟨w.heap.size, 0, none⟩) 0 0) 0 []) := World.ownsRow_lit (base := W0.heap.size) (e := 66) (size := 1) w #[] 0 HB.out.size (by decide) rfl
        have NB : Hid (Below W0.heap.size W0 (w.alloc (.cells #[] 66))) := HB.out.trans (hbn.mono HB.out.size)
        have NG : Hid ((l.length < c ∧ c ≤ 9223372036854775807) ∧ ∃ B, (w.alloc (.cells #[] 66)).ownsRow B 68 3 (.slice (some ⟨g, 0, none⟩) (l.length + 1) c) (l.length + 1) (cellsA (l ++ [A.mark]))) := ⟨HG.out.1, HG.out.2.imp (fun _ h => own_on h hbn)⟩
        have N8 : Hid ((w.alloc (.cells #[] 66)).heap[bg]? = some (.cells #[.int .i64 0, .slice none 0 0] 24) ∧ W0.heap.size ≤ bg) := ⟨(hbn.block _ (lt_of_block H8.out.1)).trans H8.out.1, H8.out.2⟩
        refine hK.out _ _ (HSS.out _ NB.out) (fun _ => ?_)
        clear hK K
        try simp only [List.setIfInBounds_toArray, List.set_cons_zero, List.set_cons_succ]
        exact (hG _ _ _ _).1 (H11100 g c _ bg _ NB NG NL N8)
      · skip
        go_simp
        have hbn : Below w.heap.size w (w.alloc (.cells #[.slice none 0 0, .slice none 0 0] 28)) := (Below.refl _ _).alloc (Nat.le_refl _) _
        have N9 : Hid ((w.alloc (.cells #[.slice none 0 0, .slice none 0 0] 28)).heap[w.heap.size]? = some (.cells #[.slice none 0 0, .slice none 0 0] 28) ∧ W0.heap.size ≤ w.heap.size) := ⟨heap_top w _, HB.out.size⟩
        have NNE : Hid (bg ≠ w.heap.size) := fun h => by have := lt_of_block H8.out.1; omega
        have NB : Hid (Below W0.heap.size W0 (w.alloc (.cells #[.slice none 0 0, .slice none 0 0] 28))) := HB.out.trans (hbn.mono HB.out.size)
        have NG : Hid ((l.length < c ∧ c ≤ 9223372036854775807) ∧ ∃ B, (w.alloc (.cells #[.slice none 0 0, .slice none 0 0] 28)).ownsRow B 68 3 (.slice (some ⟨g, 0, none⟩) (l.length + 1) c) (l.length + 1) (cellsA (l ++ [A.mark]))) := ⟨HG.out.1, HG.out.2.imp (fun _ h => own_on h hbn)⟩
        have N8 : Hid ((w.alloc (.cells #[.slice none 0 0, .slice none 0 0] 28)).heap[bg]? = some (.cells #[.int .i64 0, .slice none 0 0] 24) ∧ W0.heap.size ≤ bg) := ⟨(hbn.block _ (lt_of_block H8.out.1)).trans H8.out.1, H8.out.2⟩
        refine hK.out _ _ (HSS.out _ NB.out) (fun _ => ?_)
        clear hK K
        try simp only [List.setIfInBounds_toArray, List.set_cons_zero, List.set_cons_succ]
        exact (hG _ _ _ _).1 (H10110 g c bg _ _ NB NG N8 N9 NNE)
    have H10010 : ∀ (g c : Nat) (bn : Nat) (w : World), Hid (Below W0.heap.size W0 w) → Hid ((l.length < c ∧ c ≤ 9223372036854775807) ∧ ∃ B, w.ownsRow B 68 3 (.slice (some ⟨g, 0, none⟩) (l.length + 1) c) (l.length + 1) (cellsA (l ++ [A.mark]))) → Hid (w.heap[bn]? = some (.cells #[.slice none 0 0, .slice none 0 0] 28) ∧ W0.heap.size ≤ bn) → G 7 #[true, true, true, false, false, true, true, false, false, true, false, false, false] #[.agg #[.int .i64 N, .slice a l.length cap], .agg #[.slice ba bs.length bc, .slice ca C.length cc], .agg #[.int .i64 lv, .int .i64 ce, .int .i64 ep, .slice wa ws.length wk, x], .pointer (some ⟨p, 0, none⟩), .pointer (some ⟨p + 1, 0, none⟩), .pointer (some ⟨p + 1 + 1, 0, none⟩), .bool false, undef, .pointer (some ⟨bn, 0, none⟩), undef, undef, undef, undef, undef, undef, undef, undef, undef, .agg #[.int .i64 N, .slice a l.length cap], .bool false, undef, .agg #[.int .i64 N, .slice a l.length cap], .agg #[.int .i64 N, .slice (some ⟨g, 0, none⟩) l.length c], .agg #[.slice ba bs.length bc, .slice ca C.length cc], undef, undef, .pointer (some ⟨p + 1 + 1, 3, none⟩), .slice wa ws.length wk, undef, undef, undef, undef, undef, undef, undef, undef, undef, undef, undef, undef, undef, undef, undef, undef, undef, undef, undef, undef, undef, undef, undef, undef, undef, undef, undef, undef, undef, undef, undef, undef, undef, undef, undef, undef, undef, undef, undef, undef, undef, undef, undef, undef, undef, undef, undef, undef, undef, undef, undef, undef, undef, undef, undef, undef, undef, undef, undef, undef, undef, undef, undef, undef, undef, undef, undef, undef, undef, undef, undef, undef, undef, undef, undef, undef, undef, undef, undef, undef, undef, undef, undef, undef, undef, undef, undef, undef, undef, undef, undef] w := by
      intro g c bn w HB HG H9
      refine (hG _ _ _ _).2 ?_
      refine wpAnyH_ready (rs := [3, 4, 8]) (by kernel_rfl) (by simp) ?_
      refine AllReadyH.cons rfl (fun K hK => ?_) (AllReadyH.cons rfl (fun K hK => ?_) (AllReadyH.cons rfl (fun K hK => ?_) (AllReadyH.nil)))
      · skip
        rw [if_pos (by rfl)]
        go_simp
        refine (HCN.out w HB.out).mono ?_
        rintro e w' ⟨xa, xc, ya, Y, yc, rfl, hcpo, hbn⟩
        have NC : Hid (∃ B, CpO w' B xa bs xc ya Y C yc) := ⟨_, hcpo⟩
        clear hcpo
        have NB : Hid (Below W0.heap.size W0 w') := HB.out.trans (hbn.mono HB.out.size)
        have NG : Hid ((l.length < c ∧ c ≤ 9223372036854775807) ∧ ∃ B, w'.ownsRow B 68 3 (.slice (some ⟨g, 0, none⟩) (l.length + 1) c) (l.length + 1) (cellsA (l ++ [A.mark]))) := ⟨HG.out.1, HG.out.2.imp (fun _ h => own_on h hbn)⟩
        have N9 : Hid (w'.heap[bn]? = some (.cells #[.slice none 0 0, .slice none 0 0] 28) ∧ W0.heap.size ≤ bn) := ⟨(hbn.block _ (lt_of_block H9.out.1)).trans H9.out.1, H9.out.2⟩
        refine hK.out _ _ (HSS.out _ NB.out) (fun _ => ?_)
        clear hK K
        try simp only [List.setIfInBounds_toArray, List.set_cons_zero, List.set_cons_succ]
        exact (hG _ _ _ _).1 (H20010 g c xa xc ya Y yc bn _ NB NG NC N9)
      · skip
        go_simp
        have hbn : Below w.heap.size w (w.alloc (.cells #[] 66)) := (Below.refl _ _).alloc (Nat.le_refl _) _
        have NL : Hid ((w.alloc (.cells #[] 66)).ownsRow W0.heap.size 66 1 (.slice (some ⟨w.heap.size, 0, none⟩) 0 0) 0 []) := World.ownsRow_lit (base := W0.heap.size) (e := 66) (size := 1) w #[] 0 HB.out.size (by decide) rfl
        have NB : Hid (Below W0.heap.size W0 (w.alloc (.cells #[] 66))) := HB.out.trans (hbn.mono HB.out.size)
        have NG : Hid ((l.length < c ∧ c ≤ 9223372036854775807) ∧ ∃ B, (w.alloc (.cells #[] 66)).ownsRow B 68 3 (.slice (some ⟨g, 0, none⟩) (l.length + 1) c) (l.length + 1) (cellsA (l ++ [A.mark]))) := ⟨HG.out.1, HG.out.2.imp (fun _ h => own_on h hbn)⟩
        have N9 : Hid ((w.alloc (.cells #[] 66)).heap[bn]? = some (.cells #[.slice none 0 0, .slice none 0 0] 28) ∧ W0.heap.size ≤ bn) := ⟨(hbn.block _ (lt_of_block H9.out.1)).trans H9.out.1, H9.out.2⟩
        refine hK.out _ _ (HSS.out _ NB.out) (fun _ => ?_)
        clear hK K
        try simp only [List.setIfInBounds_toArray, List.set_cons_zero, List.set_cons_succ]
        exact (hG _ _ _ _).1 (H11010 g c _ bn _ NB NG NL N9)
      · skip
        go_simp
        have hbn : Below w.heap.size w (w.alloc (.cells #[.int .i64 0, .slice none 0 0] 24)) := (Below.refl _ _).alloc (Nat.le_refl _) _
        have N8 : Hid ((w.alloc (.cells #[.int .i64 0, .slice none 0 0] 24)).heap[w.heap.size]? = some (.cells #[.int .i64 0, .slice none 0 0] 24) ∧ W0.heap.size ≤ w.heap.size) := ⟨heap_top w _, HB.out.size⟩
        have NNE : Hid (w.heap.size ≠ bn) := fun h => by have := lt_of_block H9.out.1; omega
        have NB : Hid (Below W0.heap.size W0 (w.alloc (.cells #[.int .i64 0, .slice none 0 0] 24))) := HB.out.trans (hbn.mono HB.out.size)
        have NG : Hid ((l.length < c ∧ c ≤ 9223372036854775807) ∧ ∃ B, (w.alloc (.cells #[.int .i64 0, .slice none 0 0] 24)).ownsRow B 68 3 (.slice (some ⟨g, 0, none⟩) (l.length + 1) c) (l.length + 1) (cellsA (l ++ [A.mark]))) := ⟨HG.out.1, HG.out.2.imp (fun _ h => own_on h hbn)⟩
        have N9 : Hid ((w.alloc (.cells #[.int .i64 0, .slice none 0 0] 24)).heap[bn]? = some (.cells #[.slice none 0 0, .slice none 0 0] 28) ∧ W0.heap.size ≤ bn) := ⟨(hbn.block _ (lt_of_block H9.out.1)).trans H9.out.1, H9.out.2⟩
        refine hK.out _ _ (HSS.out _ NB.out) (fun _ => ?_)
        clear hK K
        try simp only [List.setIfInBounds_toArray, List.set_cons_zero, List.set_cons_succ]
        exact (hG _ _ _ _).1 (H10110 g c _ bn _ NB NG N8 N9 NNE)
    have H10000 : ∀ (g c : Nat) (w : World), Hid (Below W0.heap.size W0 w) → Hid ((l.length < c ∧ c ≤ 9223372036854775807) ∧ ∃ B, w.ownsRow B 68 3 (.slice (some ⟨g, 0, none⟩) (l.length + 1) c) (l.length + 1) (cellsA (l ++ [A.mark]))) → G 8 #[true, true, true, false, false, true, true, false, false, false, false, false, false] #[.agg #[.int .i64 N, .slice a l.length cap], .agg #[.slice ba bs.length bc, .slice ca C.length cc], .agg #[.int .i64 lv, .int .i64 ce, .int .i64 ep, .slice wa ws.length wk, x], .pointer (some ⟨p, 0, none⟩), .pointer (some ⟨p + 1, 0, none⟩), .pointer (some ⟨p + 1 + 1, 0, none⟩), .bool false, undef, undef, undef, undef, undef, undef, undef, undef, undef, undef, undef, .agg #[.int .i64 N, .slice a l.length cap], .bool false, undef, .agg #[.int .i64 N, .slice a l.length cap], .agg #[.int .i64 N, .slice (some ⟨g, 0, none⟩) l.length c], .agg #[.slice ba bs.length bc, .slice ca C.length cc], undef, undef, .pointer (some ⟨p + 1 + 1, 3, none⟩), .slice wa ws.length wk, undef, undef, undef, undef, undef, undef, undef, undef, undef, undef, undef, undef, undef, undef, undef, undef, undef, undef, undef, undef, undef, undef, undef, undef, undef, undef, undef, undef, undef, undef, undef, undef, undef, undef, undef, undef, undef, undef, undef, undef, undef, undef, undef, undef, undef, undef, undef, undef, undef, undef, undef, undef, undef, undef, undef, undef, undef, undef, undef, undef, undef, undef, undef, undef, undef, undef, undef, undef, undef, undef, undef, undef, undef, undef, undef, undef, undef, undef, undef, undef, undef, undef, undef, undef, undef, undef, undef, undef, undef, undef, undef] w := by
      intro g c w HB HG
      refine (hG _ _ _ _).2 ?_
      refine wpAnyH_ready (rs := [3, 4, 8, 9]) (by kernel_rfl) (by simp) ?_
      refine AllReadyH.cons rfl (fun K hK => ?_) (AllReadyH.cons rfl (fun K hK => ?_) (AllReadyH.cons rfl (fun K hK => ?_) (AllReadyH.cons rfl (fun K hK => ?_) (AllReadyH.nil))))
      · skip
        rw [if_pos (by rfl)]
        go_simp
        refine (HCN.out w HB.out).mono ?_
        rintro e w' ⟨xa, xc, ya, Y, yc, rfl, hcpo, hbn⟩
        have NC : Hid (∃ B, CpO w' B xa bs xc ya Y C yc) := ⟨_, hcpo⟩
        clear hcpo
        have NB : Hid (Below W0.heap.size W0 w') := HB.out.trans (hbn.mono HB.out.size)
        have NG : Hid ((l.length < c ∧ c ≤ 9223372036854775807) ∧ ∃ B, w'.ownsRow B 68 3 (.slice (some ⟨g, 0, none⟩) (l.length + 1) c) (l.length + 1) (cellsA (l ++ [A.mark]))) := ⟨HG.out.1, HG.out.2.imp (fun _ h => own_on h hbn)⟩
        refine hK.out _ _ (HSS.out _ NB.out) (fun _ => ?_)
        clear hK K
        try simp only [List.setIfInBounds_toArray, List.set_cons_zero, List.set_cons_succ]
        exact (hG _ _ _ _).1 (H20000 g c xa xc ya Y yc _ NB NG NC)
      · skip
        go_simp
        have hbn : Below w.heap.size w (w.alloc (.cells #[] 66)) := (Below.refl _ _).alloc (Nat.le_refl _) _
        have NL : Hid ((w.alloc (.cells #[] 66)).ownsRow W0.heap.size 66 1 (.slice (some ⟨w.heap.size, 0, none⟩) 0 0) 0 []) := World.ownsRow_lit (base := W0.heap.size) (e := 66) (size := 1) w #[] 0 HB.out.size (by decide) rfl
        have NB : Hid (Below W0.heap.size W0 (w.alloc (.cells #[] 66))) := HB.out.trans (hbn.mono HB.out.size)
        have NG : Hid ((l.length < c ∧ c ≤ 9223372036854775807) ∧ ∃ B, (w.alloc (.cells #[] 66)).ownsRow B 68 3 (.slice (some ⟨g, 0, none⟩) (l.length + 1) c) (l.length + 1) (cellsA (l ++ [A.mark]))) := ⟨HG.out.1, HG.out.2.imp (fun _ h => own_on h hbn)⟩
        refine hK.out _ _ (HSS.out _ NB.out) (fun _ => ?_)
        clear hK K
        try simp only [List.setIfInBounds_toArray, List.set_cons_zero, List.set_cons_succ]
        exact (hG _ _ _ _).1 (H11000 g c _ _ NB NG NL)
      · skip
        go_simp
        have hbn : Below w.heap.size w (w.alloc (.cells #[.int .i64 0, .slice none 0 0] 24)) := (Below.refl _ _).alloc (Nat.le_refl _) _
        have N8 : Hid ((w.alloc (.cells #[.int .i64 0, .slice none 0 0] 24)).heap[w.heap.size]? = some (.cells #[.int .i64 0, .slice none 0 0] 24) ∧ W0.heap.size ≤ w.heap.size) := ⟨heap_top w _, HB.out.size⟩
        have NB : Hid (Below W0.heap.size W0 (w.alloc (.cells #[.int .i64 0, .slice none 0 0] 24))) := HB.out.trans (hbn.mono HB.out.size)
        have NG : Hid ((l.length < c ∧ c ≤ 9223372036854775807) ∧ ∃ B, (w.alloc (.cells #[.int .i64 0, .slice none 0 0] 24)).ownsRow B 68 3 (.slice (some ⟨g, 0, none⟩) (l.length + 1) c) (l.length + 1) (cellsA (l ++ [A.mark]))) := ⟨HG.out.1, HG.out.2.imp (fun _ h => own_on h hbn)⟩
        refine hK.out _ _ (HSS.out _ NB.out) (fun _ => ?_)
        clear hK K
        try simp only [List.setIfInBounds_toArray, List.set_cons_zero, List.set_cons_succ]
        exact (hG _ _ _ _).1 (H10100 g c _ _ NB NG N8)
      · skip
        go_simp
        have hbn : Below w.heap.size w (w.alloc (.cells #[.slice none 0 0, .slice none 0 0] 28)) := (Below.refl _ _).alloc (Nat.le_refl _) _
        have N9 : Hid ((w.alloc (.cells #[.slice none 0 0, .slice none 0 0] 28)).heap[w.heap.size]? = some (.cells #[.slice none 0 0, .slice none 0 0] 28) ∧ W0.heap.size ≤ w.heap.size) := ⟨heap_top w _, HB.out.size⟩
        have NB : Hid (Below W0.heap.size W0 (w.alloc (.cells #[.slice none 0 0, .slice none 0 0] 28))) := HB.out.trans (hbn.mono HB.out.size)
        have NG : Hid ((l.length < c ∧ c ≤ 9223372036854775807) ∧ ∃ B, (w.alloc (.cells #[.slice none 0 0, .slice none 0 0] 28)).ownsRow B 68 3 (.slice (some ⟨g, 0, none⟩) (l.length + 1) c) (l.length + 1) (cellsA (l ++ [A.mark]))) := ⟨HG.out.1, HG.out.2.imp (fun _ h => own_on h hbn)⟩
        refine hK.out _ _ (HSS.out _ NB.out) (fun _ => ?_)
        clear hK K
        try simp only [List.setIfInBounds_toArray, List.set_cons_zero, List.set_cons_succ]
        exact (hG _ _ _ _).1 (H10010 g c _ _ NB NG N9)
    have H01110 : ∀ (b4 : Nat) (bg : Nat) (bn : Nat) (w : World), Hid (Below W0.heap.size W0 w) → Hid (w.ownsRow W0.heap.size 66 1 (.slice (some ⟨b4, 0, none⟩) 0 0) 0 []) → Hid (w.heap[bg]? = some (.cells #[.int .i64 0, .slice none 0 0] 24) ∧ W0.heap.size ≤ bg) → Hid (w.heap[bn]? = some (.cells #[.slice none 0 0, .slice none 0 0] 28) ∧ W0.heap.size ≤ bn) → Hid (bg ≠ bn) → G 6 #[true, false, true, false, true, true, true, false, true, true, false, false, false] #[.agg #[.int .i64 N, .slice a l.length cap], .agg #[.slice ba bs.length bc, .slice ca C.length cc], .agg #[.int .i64 lv, .int .i64 ce, .int .i64 ep, .slice wa ws.length wk, x], .pointer (some ⟨p, 0, none⟩), .pointer (some ⟨p + 1, 0, none⟩), .pointer (some ⟨p + 1 + 1, 0, none⟩), .bool false, .pointer (some ⟨bg, 0, none⟩), .pointer (some ⟨bn, 0, none⟩), undef, undef, undef, undef, undef, undef, undef, undef, undef, .agg #[.int .i64 N, .slice a l.length cap], .bool false, undef, .agg #[.int .i64 N, .slice a l.length cap], undef, .agg #[.slice ba bs.length bc, .slice ca C.length cc], undef, .slice (some ⟨b4, 0, none⟩) 0 0, .pointer (some ⟨p + 1 + 1, 3, none⟩), .slice wa ws.length wk, undef, undef, undef, undef, undef, undef, undef, undef, undef, undef, undef, undef, undef, undef, undef, undef, undef, undef, undef, undef, undef, undef, undef, undef, undef, undef, undef, undef, undef, undef, undef, undef, undef, undef, undef, undef, undef, undef, undef, undef, undef, undef, undef, undef, undef, undef, undef, undef, undef, undef, undef, undef, undef, undef, undef, undef, undef, undef, undef, undef, undef, undef, undef, undef, undef, undef, undef, undef, undef, undef, undef, undef, undef, undef, undef, undef, undef, undef, undef, undef, undef, undef, undef, undef, undef, undef, undef, undef, undef, undef, undef] w := by
      intro b4 bg bn w HB HL H8 H9 HNE
      refine (hG _ _ _ _).2 ?_
      refine wpAnyH_ready (rs := [1]) (by kernel_rfl) (by simp) ?_
      refine AllReadyH.cons rfl (fun K hK => ?_) (AllReadyH.nil)
      · skip
        rw [if_pos (by rfl)]
        go_simp
        refine (HLG.out w HB.out).mono ?_
        rintro e w' ⟨g, c, rfl, hc1, hc2, hown, hbn⟩
        have NG : Hid ((l.length < c ∧ c ≤ 9223372036854775807) ∧ ∃ B, w'.ownsRow B 68 3 (.slice (some ⟨g, 0, none⟩) (l.length + 1) c) (l.length + 1) (cellsA (l ++ [A.mark]))) := ⟨⟨hc1, hc2⟩, _, hown⟩
        clear hown
        have NB : Hid (Below W0.heap.size W0 w') := HB.out.trans (hbn.mono HB.out.size)
        have NL : Hid (w'.ownsRow W0.heap.size 66 1 (.slice (some ⟨b4, 0, none⟩) 0 0) 0 []) := own_on HL.out hbn
        have N8 : Hid (w'.heap[bg]? = some (.cells #[.int .i64 0, .slice none 0 0] 24) ∧ W0.heap.size ≤ bg) := ⟨(hbn.block _ (lt_of_block H8.out.1)).trans H8.out.1, H8.out.2⟩
        have N9 : Hid (w'.heap[bn]? = some (.cells #[.slice none 0 0, .slice none 0 0] 28) ∧ W0.heap.size ≤ bn) := ⟨(hbn.block _ (lt_of_block H9.out.1)).trans H9.out.1, H9.out.2⟩
        refine hK.out _ _ (HSS.out _ NB.out) (fun _ => ?_)
        clear hK K
        try simp only [List.setIfInBounds_toArray, List.set_cons_zero, List.set_cons_succ]
        exact (hG _ _ _ _).1 (H11110 g c b4 bg bn _ NB NG NL N8 N9 HNE)
    have H01100 : ∀ (b4 : Nat) (bg : Nat) (w : World), Hid (Below W0.heap.size W0 w) → Hid (w.ownsRow W0.heap.size 66 1 (.slice (some ⟨b4, 0, none⟩) 0 0) 0 []) → Hid (w.heap[bg]? = some (.cells #[.int .i64 0, .slice none 0 0] 24) ∧ W0.heap.size ≤ bg) → G 7 #[true, false, true, false, true, true, true, false, true, false, false, false, false] #[.agg #[.int .i64 N, .slice a l.length cap], .agg #[.slice ba bs.length bc, .slice ca C.length cc], .agg #[.int .i64 lv, .int .i64 ce, .int .i64 ep, .slice wa ws.length wk, x], .pointer (some ⟨p, 0, none⟩), .pointer (some ⟨p + 1, 0, none⟩), .pointer (some ⟨p + 1 + 1, 0, none⟩), .bool false, .pointer (some ⟨bg, 0, none⟩), undef, undef, undef, undef, undef, undef, undef, undef, undef, undef, .agg #[.int .i64 N, .slice a l.length cap], .bool false, undef, .agg #[.int .i64 N, .slice a l.length cap], undef, .agg #[.slice ba bs.length bc, .slice ca C.length cc], undef, .slice (some ⟨b4, 0, none⟩) 0 0, .pointer (some ⟨p + 1 + 1, 3, none⟩), .slice wa ws.length wk, undef, undef, undef, undef, undef, undef, undef, undef, undef, undef, undef, undef, undef, undef, undef, undef, undef, undef, undef, undef, undef, undef, undef, undef, undef, undef, undef, undef, undef, undef, undef, undef, undef, undef, undef, undef, undef, undef, undef, undef, undef, undef, undef, undef, undef, undef, undef, undef, undef, undef, undef, undef, undef, undef, undef, undef, undef, undef, undef, undef, undef, undef, undef, undef, undef, undef, undef, undef, undef, undef, undef, undef, undef, undef, undef, undef, undef, undef, undef, undef, undef, undef, undef, undef, undef, undef, undef, undef, undef, undef, undef] w := by
      intro b4 bg w HB HL H8
      refine (hG _ _ _ _).2 ?_
      refine wpAnyH_ready (rs := [1, 9]) (by kernel_rfl) (by simp) ?_
      refine AllReadyH.cons rfl (fun K hK => ?_) (AllReadyH.cons rfl (fun K hK => ?_) (AllReadyH.nil))
      · skip
        rw [if_pos (by rfl)]
        go_simp
        refine (HLG.out w HB.out).mono ?_
        rintro e w' ⟨g, c, rfl, hc1, hc2, hown, hbn⟩
        have NG : Hid ((l.length < c ∧ c ≤ 9223372036854775807) ∧ ∃ B, w'.ownsRow B 68 3 (.slice (some ⟨g, 0, none⟩) (l.length + 1) c) (l.length + 1) (cellsA (l ++ [A.mark]))) := ⟨⟨hc1, hc2⟩, _, hown⟩
        clear hown
        have NB : Hid (Below W0.heap.size W0 w') := HB.out.trans (hbn.mono HB.out.size)
        have NL : Hid (w'.ownsRow W0.heap.size 66 1 (.slice (some ⟨b4, 0, none⟩) 0 0) 0 []) := own_on HL.out hbn
        have N8 : Hid (w'.heap[bg]? = some (.cells #[.int .i64 0, .slice none 0 0] 24) ∧ W0.heap.size ≤ bg) := ⟨(hbn.block _ (lt_of_block H8.out.1)).trans H8.out.1, H8.out.2⟩
        refine hK.out _ _ (HSS.out _ NB.out) (fun _ => ?_)
        clear hK K
        try simp only [List.setIfInBounds_toArray, List.set_cons_zero, List.set_cons_succ]
        exact (hG _ _ _ _).1 (H11100 g c b4 bg _ NB NG NL N8)
      · skip
        go_simp
        have hbn : Below w.heap.size w (w.alloc (.cells #[.slice none 0 0, .slice none 0 0] 28)) := (Below.refl _ _).alloc (Nat.le_refl _) _
        have N9 : Hid ((w.alloc (.cells #[.slice none 0 0, .slice none 0 0] 28)).heap[w.heap.size]? = some (.cells #[.slice none 0 0, .slice none 0 0] 28) ∧ W0.heap.size ≤ w.heap.size) := ⟨heap_top w _, HB.out.size⟩
        have NNE : Hid (bg ≠ w.heap.size) := fun h => by have := lt_of_block H8.out.1; omega
        have NB : Hid (Below W0.heap.size W0 (w.alloc (.cells #[.slice none 0 0, .slice none 0 0] 28))) := HB.out.trans (hbn.mono HB.out.size)
        have NL : Hid ((w.alloc (.cells #[.slice none 0 0, .slice none 0 0] 28)).ownsRow W0.heap.size 66 1 (.slice (some ⟨b4, 0, none⟩) 0 0) 0 []) := own_on HL.out hbn
        have N8 : Hid ((w.alloc (.cells #[.slice none 0 0, .slice none 0 0] 28)).heap[bg]? = some (.cells #[.int .i64 0, .slice none 0 0] 24) ∧ W0.heap.size ≤ bg) := ⟨(hbn.block _ (lt_of_block H8.out.1)).trans H8.out.1, H8.out.2⟩
        refine hK.out _ _ (HSS.out _ NB.out) (fun _ => ?_)
        clear hK K
        try simp only [List.setIfInBounds_toArray, List.set_cons_zero, List.set_cons_succ]
        exact (hG _ _ _ _).1 (H01110 b4 bg _ _ NB NL N8 N9 NNE)
    have H01010 : ∀ (b4 : Nat) (bn : Nat) (w : World), Hid (Below W0.heap.size W0 w) → Hid (w.ownsRow W0.heap.size 66 1 (.slice (some ⟨b4, 0, none⟩) 0 0) 0 []) → Hid (w.heap[bn]? = some (.cells #[.slice none 0 0, .slice none 0 0] 28) ∧ W0.heap.size ≤ bn) → G 7 #[true, false, true, false, true, true, true, false, false, true, false, false, false] #[.agg #[.int .i64 N, .slice a l.length cap], .agg #[.slice ba bs.length bc, .slice ca C.length cc], .agg #[.int .i64 lv, .int .i64 ce, .int .i64 ep, .slice wa ws.length wk, x], .pointer (some ⟨p, 0, none⟩), .pointer (some ⟨p + 1, 0, none⟩), .pointer (some ⟨p + 1 + 1, 0, none⟩), .bool false, undef, .pointer (some ⟨bn, 0, none⟩), undef, undef, undef, undef, undef, undef, undef, undef, undef, .agg #[.int .i64 N, .slice a l.length cap], .bool false, undef, .agg #[.int .i64 N, .slice a l.length cap], undef, .agg #[.slice ba bs.length bc, .slice ca C.length cc], undef, .slice (some ⟨b4, 0, none⟩) 0 0, .pointer (some ⟨p + 1 + 1, 3, none⟩), .slice wa ws.length wk, undef, undef, undef, undef, undef, undef, undef, undef, undef, undef, undef, undef, undef, undef, undef, undef, undef, undef, undef, undef, undef, undef, undef, undef, undef, undef, undef, undef, undef, undef, undef, undef, undef, undef, undef, undef, undef, undef, undef, undef, undef, undef, undef, undef, undef, undef, undef, undef, undef, undef, undef, undef, undef, undef, undef, undef, undef, undef, undef, undef, undef, undef, undef, undef, undef, undef, undef, undef, undef, undef, undef, undef, undef, undef, undef, undef, undef, undef, undef, undef, undef, undef, undef, undef, undef, undef, undef, undef, undef, undef, undef] w := by
      intro b4 bn w HB HL H9
      refine (hG _ _ _ _).2 ?_
      refine wpAnyH_ready (rs := [1, 8]) (by kernel_rfl) (by simp) ?_
      refine AllReadyH.cons rfl (fun K hK => ?_) (AllReadyH.cons rfl (fun K hK => ?_) (AllReadyH.nil))
      · skip
        rw [if_pos (by rfl)]
        go_simp
        refine (HLG.out w HB.out).mono ?_
        rintro e w' ⟨g, c, rfl, hc1, hc2, hown, hbn⟩
        have NG : Hid ((l.length < c ∧ c ≤ 9223372036854775807) ∧ ∃ B, w'.ownsRow B 68 3 (.slice (some ⟨g, 0, none⟩) (l.length + 1) c) (l.length + 1) (cellsA (l ++ [A.mark]))) := ⟨⟨hc1, hc2⟩, _, hown⟩
        clear hown
        have NB : Hid (Below W0.heap.size W0 w') := HB.out.trans (hbn.mono HB.out.size)
        have NL : Hid (w'.ownsRow W0.heap.size 66 1 (.slice (some ⟨b4, 0, none⟩) 0 0) 0 []) := own_on HL.out hbn
        have N9 : Hid (w'.heap[bn]? = some (.cells #[.slice none 0 0, .slice none 0 0] 28) ∧ W0.heap.size ≤ bn) := ⟨(hbn.block _ (lt_of_block H9.out.1)).trans H9.out.1, H9.out.2⟩
        refine hK.out _ _ (HSS.out _ NB.out) (fun _ => ?_)
        clear hK K
        try simp only [List.setIfInBounds_toArray, List.set_cons_zero, List.set_cons_succ]
        exact (hG _ _ _ _).1 (H11010 g c b4 bn _ NB NG NL N9)
      · skip
        go_simp
        have hbn : Below w.heap.size w (w.alloc (.cells #[.int .i64 0, .slice none 0 0] 24)) := (Below.refl _ _).alloc (Nat.le_refl _) _
        have N8 : Hid ((w.alloc (.cells #[.int .i64 0, .slice none 0 0] 24)).heap[w.heap.size]? = some (.cells #[.int .i64 0, .slice none 0 0] 24) ∧ W0.heap.size ≤ w.heap.size) := ⟨heap_top w _, HB.out.size⟩
        have NNE : Hid (w.heap.size ≠ bn) := fun h => by have := lt_of_block H9.out.1; omega
        have NB : Hid (Below W0.heap.size W0 (w.alloc (.cells #[.int .i64 0, .slice none 0 0] 24))) := HB.out.trans (hbn.mono HB.out.size)
        have NL : Hid ((w.alloc (.cells #[.int .i64 0, .slice none 0 0] 24)).ownsRow W0.heap.size 66 1 (.slice (some ⟨b4, 0, none⟩) 0 0) 0 []) := own_on HL.out hbn
        have N9 : Hid ((w.alloc (.cells #[.int .i64 0, .slice none 0 0] 24)).heap[bn]? = some (.cells #[.slice none 0 0, .slice none 0 0] 28) ∧ W0.heap.size ≤ bn) := ⟨(hbn.block _ (lt_of_block H9.out.1)).trans H9.out.1, H9.out.2⟩
        refine hK.out _ _ (HSS.out _ NB.out) (fun _ => ?_)
        clear hK K
        try simp only [List.setIfInBounds_toArray, List.set_cons_zero, List.set_cons_succ]
        exact (hG _ _ _ _).1 (H01110 b4 _ bn _ NB NL N8 N9 NNE)
    have H01000 : ∀ (b4 : Nat) (w : World), Hid (Below W0.heap.size W0 w) → Hid (w.ownsRow W0.heap.size 66 1 (.slice (some ⟨b4, 0, none⟩) 0 0) 0 []) → G 8 #[true, false, true, false, true, true, true, false, false, false, false, false, false] #[.agg #[.int .i64 N, .slice a l.length cap], .agg #[.slice ba bs.length bc, .slice ca C.length cc], .agg #[.int .i64 lv, .int .i64 ce, .int .i64 ep, .slice wa ws.length wk, x], .pointer (some ⟨p, 0, none⟩), .pointer (some ⟨p + 1, 0, none⟩), .pointer (some ⟨p + 1 + 1, 0, none⟩), .bool false, undef, undef, undef, undef, undef, undef, undef, undef, undef, undef, undef, .agg #[.int .i64 N, .slice a l.length cap], .bool false, undef, .agg #[.int .i64 N, .slice a l.length cap], undef, .agg #[.slice ba bs.length bc, .slice ca C.length cc], undef, .slice (some ⟨b4, 0, none⟩) 0 0, .pointer (some ⟨p + 1 + 1, 3, none⟩), .slice wa ws.length wk, undef, undef, undef, undef, undef, undef, undef, undef, undef, undef, undef, undef, undef, undef, undef, undef, undef, undef, undef, undef, undef, undef, undef, undef, undef, undef, undef, undef, undef, undef, undef, undef, undef, undef, undef, undef, undef, undef, undef, undef, undef, undef, undef, undef, undef, undef, undef, undef, undef, undef, undef, undef, undef, undef, undef, undef, undef, undef, undef, undef, undef, undef, undef, undef, undef, undef, undef, undef, undef, undef, undef, undef, undef, undef, undef, undef, undef, undef, undef, undef, undef, undef, undef, undef, undef, undef, undef, undef, undef, undef, undef] w := by
      intro b4 w HB HL
      refine (hG _ _ _ _).2 ?_
      refine wpAnyH_ready (rs := [1, 8, 9]) (by kernel_rfl) (by simp) ?_
      refine AllReadyH.cons rfl (fun K hK => ?_) (AllReadyH.cons rfl (fun K hK => ?_) (AllReadyH.cons rfl (fun K hK => ?_) (AllReadyH.nil)))
      · skip
        rw [if_pos (by rfl)]
        go_simp
        refine (HLG.out w HB.out).mono ?_
        rintro e w' ⟨g, c, rfl, hc1, hc2, hown, hbn⟩
        have NG : Hid ((l.length < c ∧ c ≤ 9223372036854775807) ∧ ∃ B, w'.ownsRow B 68 3 (.slice (some ⟨g, 0, none⟩) (l.length + 1) c) (l.length + 1) (cellsA (l ++ [A.mark]))) := ⟨⟨hc1, hc2⟩, _, hown⟩
        clear hown
        have NB : Hid (Below W0.heap.size W0 w') := HB.out.trans (hbn.mono HB.out.size)
        have NL : Hid (w'.ownsRow W0.heap.size 66 1 (.slice (some ⟨b4, 0, none⟩) 0 0) 0 []) := own_on HL.out hbn
        refine hK.out _ _ (HSS.out _ NB.out) (fun _ => ?_)
        clear hK K
        try simp only [List.setIfInBounds_toArray, List.set_cons_zero, List.set_cons_succ]
        exact (hG _ _ _ _).1 (H11000 g c b4 _ NB NG NL)
      · skip
        go_simp
        have hbn : Below w.heap.size w (w.alloc (.cells #[.int .i64 0, .slice none 0 0] 24)) := (Below.refl _ _).alloc (Nat.le_refl _) _
        have N8 : Hid ((w.alloc (.cells #[.int .i64 0, .slice none 0 0] 24)).heap[w.heap.size]? = some (.cells #[.int .i64 0, .slice none 0 0] 24) ∧ W0.heap.size ≤ w.heap.size) := ⟨heap_top w _, HB.out.size⟩
        have NB : Hid (Below W0.heap.size W0 (w.alloc (.cells #[.int .i64 0, .slice none 0 0] 24))) := HB.out.trans (hbn.mono HB.out.size)
        have NL : Hid ((w.alloc (.cells #[.int .i64 0, .slice none 0 0] 24)).ownsRow W0.heap.size 66 1 (.slice (some ⟨b4, 0, none⟩) 0 0) 0 []) := own_on HL.out hbn
        refine hK.out _ _ (HSS.out _ NB.out) (fun _ => ?_)
        clear hK K
        try simp only [List.setIfInBounds_toArray, List.set_cons_zero, List.set_cons_succ]
        exact (hG _ _ _ _).1 (H01100 b4 _ _ NB NL N8)
      · skip
        go_simp
        have hbn : Below w.heap.size w (w.alloc (.cells #[.slice none 0 0, .slice none 0 0] 28)) := (Below.refl _ _).alloc (Nat.le_refl _) _
        have N9 : Hid ((w.alloc (.cells #[.slice none 0 0, .slice none 0 0] 28)).heap[w.heap.size]? = some (.cells #[.slice none 0 0, .slice none 0 0] 28) ∧ W0.heap.size ≤ w.heap.size) := ⟨heap_top w _, HB.out.size⟩
        have NB : Hid (Below W0.heap.size W0 (w.alloc (.cells #[.slice none 0 0, .slice none 0 0] 28))) := HB.out.trans (hbn.mono HB.out.size)
        have NL : Hid ((w.alloc (.cells #[.slice none 0 0, .slice none 0 0] 28)).ownsRow W0.heap.size 66 1 (.slice (some ⟨b4, 0, none⟩) 0 0) 0 []) := own_on HL.out hbn
        refine hK.out _ _ (HSS.out _ NB.out) (fun _ => ?_)
        clear hK K
        try simp only [List.setIfInBounds_toArray, List.set_cons_zero, List.set_cons_succ]
        exact (hG _ _ _ _).1 (H01010 b4 _ _ NB NL N9)
    have H00110 : ∀ (bg : Nat) (bn : Nat) (w : World), Hid (Below W0.heap.size W0 w) → Hid (w.heap[bg]? = some (.cells #[.int .i64 0, .slice none 0 0] 24) ∧ W0.heap.size ≤ bg) → Hid (w.heap[bn]? = some (.cells #[.slice none 0 0, .slice none 0 0] 28) ∧ W0.heap.size ≤ bn) → Hid (bg ≠ bn) → G 7 #[true, false, true, false, false, true, true, false, true, true, false, false, false] #[.agg #[.int .i64 N, .slice a l.length cap], .agg #[.slice ba bs.length bc, .slice ca C.length cc], .agg #[.int .i64 lv, .int .i64 ce, .int .i64 ep, .slice wa ws.length wk, x], .pointer (some ⟨p, 0, none⟩), .pointer (some ⟨p + 1, 0, none⟩), .pointer (some ⟨p + 1 + 1, 0, none⟩), .bool false, .pointer (some ⟨bg, 0, none⟩), .pointer (some ⟨bn, 0, none⟩), undef, undef, undef, undef, undef, undef, undef, undef, undef, .agg #[.int .i64 N, .slice a l.length cap], .bool false, undef, .agg #[.int .i64 N, .slice a l.length cap], undef, .agg #[.slice ba bs.length bc, .slice ca C.length cc], undef, undef, .pointer (some ⟨p + 1 + 1, 3, none⟩), .slice wa ws.length wk, undef, undef, undef, undef, undef, undef, undef, undef, undef, undef, undef, undef, undef, undef, undef, undef, undef, undef, undef, undef, undef, undef, undef, undef, undef, undef, undef, undef, undef, undef, undef, undef, undef, undef, undef, undef, undef, undef, undef, undef, undef, undef, undef, undef, undef, undef, undef, undef, undef, undef, undef, undef, undef, undef, undef, undef, undef, undef, undef, undef, undef, undef, undef, undef, undef, undef, undef, undef, undef, undef, undef, undef, undef, undef, undef, undef, undef, undef, undef, undef, undef, undef, undef, undef, undef, undef, undef, undef, undef, undef, undef] w := by
      intro bg bn w HB H8 H9 HNE
      refine (hG _ _ _ _).2 ?_
      refine wpAnyH_ready (rs := [1, 4]) (by kernel_rfl) (by simp) ?_
      refine AllReadyH.cons rfl (fun K hK => ?_) (AllReadyH.cons rfl (fun K hK => ?_) (AllReadyH.nil))
      · skip
        rw [if_pos (by rfl)]
        go_simp
        refine (HLG.out w HB.out).mono ?_
        rintro e w' ⟨g, c, rfl, hc1, hc2, hown, hbn⟩
        have NG : Hid ((l.length < c ∧ c ≤ 9223372036854775807) ∧ ∃ B, w'.ownsRow B 68 3 (.slice (some ⟨g, 0, none⟩) (l.length + 1) c) (l.length + 1) (cellsA (l ++ [A.mark]))) := ⟨⟨hc1, hc2⟩, _, hown⟩
        clear hown
        have NB : Hid (Below W0.heap.size W0 w') := HB.out.trans (hbn.mono HB.out.size)
        have N8 : Hid (w'.heap[bg]? = some (.cells #[.int .i64 0, .slice none 0 0] 24) ∧ W0.heap.size ≤ bg) := ⟨(hbn.block _ (lt_of_block H8.out.1)).trans H8.out.1, H8.out.2⟩
        have N9 : Hid (w'.heap[bn]? = some (.cells #[.slice none 0 0, .slice none 0 0] 28) ∧ W0.heap.size ≤ bn) := ⟨(hbn.block _ (lt_of_block H9.out.1)).trans H9.out.1, H9.out.2⟩
        refine hK.out _ _ (HSS.out _ NB.out) (fun _ => ?_)
        clear hK K
        try simp only [List.setIfInBounds_toArray, List.set_cons_zero, List.set_cons_succ]
        exact (hG _ _ _ _).1 (H10110 g c bg bn _ NB NG N8 N9 HNE)
      · skip
        go_simp
        have hbn : Below w.heap.size w (w.alloc (.cells #[] 66)) := (Below.refl _ _).alloc (Nat.le_refl _) _
        have NL : Hid ((w.alloc (.cells #[] 66)).ownsRow W0.heap.size 66 1 (.slice (some ⟨w.heap.size, 0, none⟩) 0 0) 0 []) := World.ownsRow_lit (base := W0.heap.size) (e := 66) (size := 1) w #[] 0 HB.out.size (by decide) rfl
        have NB : Hid (Below W0.heap.size W0 (w.alloc (.cells #[] 66))) := HB.out.trans (hbn.mono HB.out.size)
        have N8 : Hid ((w.alloc (.cells #[] 66)).heap[bg]? = some (.cells #[.int .i64 0, .slice none 0 0] 24) ∧ W0.heap.size ≤ bg) := ⟨(hbn.block _ (lt_of_block H8.out.1)).trans H8.out.1, H8.out.2⟩
        have N9 : Hid ((w.alloc (.cells #[] 66)).heap[bn]? = some (.cells #[.slice none 0 0, .slice none 0 0] 28) ∧ W0.heap.size ≤ bn) := ⟨(hbn.block _ (lt_of_block H9.out.1)).trans H9.out.1, H9.out.2⟩
        refine hK.out _ _ (HSS.out _ NB.out) (fun _ => ?_)
        clear hK K
        try simp only [List.setIfInBounds_toArray, List.set_cons_zero, List.set_cons_succ]
        exact (hG _ _ _ _).1 (H01110 _ bg bn _ NB NL N8 N9 HNE)
    have H00100 : ∀ (bg : Nat) (w : World), Hid (Below W0.heap.size W0 w) → Hid (w.heap[bg]? = some (.cells #[.int .i64 0, .slice none 0 0] 24) ∧ W0.heap.size ≤ bg) → G 8 #[true, false, true, false, false, true, true, false, true, false, false, false, false] #[.agg #[.int .i64 N, .slice a l.length cap], .agg #[.slice ba bs.length bc, .slice ca C.length cc], .agg #[.int .i64 lv, .int .i64 ce, .int .i64 ep, .slice wa ws.length wk, x], .pointer (some ⟨p, 0, none⟩), .pointer (some ⟨p + 1, 0, none⟩), .pointer (some ⟨p + 1 + 1, 0, none⟩), .bool false, .pointer (some ⟨bg, 0, none⟩), undef, undef, undef, undef, undef, undef, undef, undef, undef, undef, .agg #[.int .i64 N, .slice a l.length cap], .bool false, undef, .agg #[.int .i64 N, .slice a l.length cap], undef, .agg #[.slice ba bs.length bc, .slice ca C.length cc], undef, undef, .pointer (some ⟨p + 1 + 1, 3, none⟩), .slice wa ws.length wk, undef, undef, undef, undef, undef, undef, undef, undef, undef, undef, undef, undef, undef, undef, undef, undef, undef, undef, undef, undef, undef, undef, undef, undef, undef, undef, undef, undef, undef, undef, undef, undef, undef, undef, undef, undef, undef, undef, undef, undef, undef, undef, undef, undef, undef, undef, undef, undef, undef, undef, undef, undef, undef, undef, undef, undef, undef, undef, undef, undef, undef, undef, undef, undef, undef, undef, undef, undef, undef, undef, undef, undef, undef, undef, undef, undef, undef, undef, undef, undef, undef, undef, undef, undef, undef, undef, undef, undef, undef, undef, undef] w := by
      intro bg w HB H8
      refine (hG _ _ _ _).2 ?_
      refine wpAnyH_ready (rs := [1, 4, 9]) (by kernel_rfl) (by simp) ?_
      refine AllReadyH.cons rfl (fun K hK => ?_) (AllReadyH.cons rfl (fun K hK => ?_) (AllReadyH.cons rfl (fun K hK => ?_) (AllReadyH.nil)))
      · skip
        rw [if_pos (by rfl)]
        go_simp
        refine (HLG.out w HB.out).mono ?_
        rintro e w' ⟨g, c, rfl, hc1, hc2, hown, hbn⟩
        have NG : Hid ((l.length < c ∧ c ≤ 9223372036854775807) ∧ ∃ B, w'.ownsRow B 68 3 (.slice (some ⟨g, 0, none⟩) (l.length + 1) c) (l.length + 1) (cellsA (l ++ [A.mark]))) := ⟨⟨hc1, hc2⟩, _, hown⟩
        clear hown
        have NB : Hid (Below W0.heap.size W0 w') := HB.out.trans (hbn.mono HB.out.size)
        have N8 : Hid (w'.heap[bg]? = some (.cells #[.int .i64 0, .slice none 0 0] 24) ∧ W0.heap.size ≤ bg) := ⟨(hbn.block _ (lt_of_block H8.out.1)).trans H8.out.1, H8.out.2⟩
        refine hK.out _ _ (HSS.out _ NB.out) (fun _ => ?_)
        clear hK K
        try simp only [List.setIfInBounds_toArray, List.set_cons_zero, List.set_cons_succ]
        exact (hG _ _ _ _).1 (H10100 g c bg _ NB NG N8)
      · skip
        go_simp
        have hbn : Below w.heap.size w (w.alloc (.cells #[] 66)) := (Below.refl _ _).alloc (Nat.le_refl _) _
        have NL : Hid ((w.alloc (.cells #[] 66)).ownsRow W0.heap.size 66 1 (.slice (some ⟨w.heap.size, 0, none⟩) 0 0) 0 []) := World.ownsRow_lit (base := W0.heap.size) (e := 66) (size := 1) w #[] 0 HB.out.size (by decide) rfl
        have NB : Hid (Below W0.heap.size W0 (w.alloc (.cells #[] 66))) := HB.out.trans (hbn.mono HB.out.size)
        have N8 : Hid ((w.alloc (.cells #[] 66)).heap[bg]? = some (.cells #[.int .i64 0, .slice none 0 0] 24) ∧ W0.heap.size ≤ bg) := ⟨(hbn.block _ (lt_of_block H8.out.1)).trans H8.out.1, H8.out.2⟩
        refine hK.out _ _ (HSS.out _ NB.out) (fun _ => ?_)
        clear hK K
        try simp only [List.setIfInBounds_toArray, List.set_cons_zero, List.set_cons_succ]
        exact (hG _ _ _ _).1 (H01100 _ bg _ NB NL N8)
      · skip
        go_simp
        have hbn : Below w.heap.size w (w.alloc (.cells #[.slice none 0 0, .slice none 0 0] 28)) := (Below.refl _ _).alloc (Nat.le_refl _) _
        have N9 : Hid ((w.alloc (.cells #[.slice none 0 0, .slice none 0 0] 28)).heap[w.heap.size]? = some (.cells #[.slice none 0 0, .slice none 0 0] 28) ∧ W0.heap.size ≤ w.heap.size) := ⟨heap_top w _, HB.out.size⟩
        have NNE : Hid (bg ≠ w.heap.size) := fun h => by have := lt_of_block H8.out.1; omega
        have NB : Hid (Below W0.heap.size W0 (w.alloc (.cells #[.slice none 0 0, .slice none 0 0] 28))) := HB.out.trans (hbn.mono HB.out.size)
        have N8 : Hid ((w.alloc (.cells #[.slice none 0 0, .slice none 0 0] 28)).heap[bg]? = some (.cells #[.int .i64 0, .slice none 0 0] 24) ∧ W0.heap.size ≤ bg) := ⟨(hbn.block _ (lt_of_block H8.out.1)).trans H8.out.1, H8.out.2⟩
        refine hK.out _ _ (HSS.out _ NB.out) (fun _ => ?_)
        clear hK K
        try simp only [List.setIfInBounds_toArray, List.set_cons_zero, List.set_cons_succ]
        exact (hG _ _ _ _).1 (H00110 bg _ _ NB N8 N9 NNE)
    have H00010 : ∀ (bn : Nat) (w : World), Hid (Below W0.heap.size W0 w) → Hid (w.heap[bn]? = some (.cells #[.slice none 0 0, .slice none 0 0] 28) ∧ W0.heap.size ≤ bn) → G 8 #[true, false, true, false, false, true, true, false, false, true, false, false, false] #[.agg #[.int .i64 N, .slice a l.length cap], .agg #[.slice ba bs.length bc, .slice ca C.length cc], .agg #[.int .i64 lv, .int .i64 ce, .int .i64 ep, .slice wa ws.length wk, x], .pointer (some ⟨p, 0, none⟩), .pointer (some ⟨p + 1, 0, none⟩), .pointer (some ⟨p + 1 + 1, 0, none⟩), .bool false, undef, .pointer (some ⟨bn, 0, none⟩), undef, undef, undef, undef, undef, undef, undef, undef, undef, .agg #[.int .i64 N, .slice a l.length cap], .bool false, undef, .agg #[.int .i64 N, .slice a l.length cap], undef, .agg #[.slice ba bs.length bc, .slice ca C.length cc], undef, undef, .pointer (some ⟨p + 1 + 1, 3, none⟩), .slice wa ws.length wk, undef, undef, undef, undef, undef, undef, undef, undef, undef, undef, undef, undef, undef, undef, undef, undef, undef, undef, undef, undef, undef, undef, undef, undef, undef, undef, undef, undef, undef, undef, undef, undef, undef, undef, undef, undef, undef, undef, undef, undef, undef, undef, undef, undef, undef, undef, undef, undef, undef, undef, undef, undef, undef, undef, undef, undef, undef, undef, undef, undef, undef, undef, undef, undef, undef, undef, undef, undef, undef, undef, undef, undef, undef, undef, undef, undef, undef, undef, undef, undef, undef, undef, undef, undef, undef, undef, undef, undef, undef, undef, undef] w := by
      intro bn w HB H9
      refine (hG _ _ _ _).2 ?_
      refine wpAnyH_ready (rs := [1, 4, 8]) (by kernel_rfl) (by simp) ?_
      refine AllReadyH.cons rfl (fun K hK => ?_) (AllReadyH.cons rfl (fun K hK => ?_) (AllReadyH.cons rfl (fun K hK => ?_) (AllReadyH.nil)))
      · skip
        rw [if_pos (by rfl)]
        go_simp
        refine (HLG.out w HB.out).mono ?_
        rintro e w' ⟨g, c, rfl, hc1, hc2, hown, hbn⟩
        have NG : Hid ((l.length < c ∧ c ≤ 9223372036854775807) ∧ ∃ B, w'.ownsRow B 68 3 (.slice (some ⟨g, 0, none⟩) (l.length + 1) c) (l.length + 1) (cellsA (l ++ [A.mark]))) := ⟨⟨hc1, hc2⟩, _, hown⟩
        clear hown
        have NB : Hid (Below W0.heap.size W0 w') := HB.out.trans (hbn.mono HB.out.size)
        have N9 : Hid (w'.heap[bn]? = some (.cells #[.slice none 0 0, .slice none 0 0] 28) ∧ W0.heap.size ≤ bn) := ⟨(hbn.block _ (lt_of_block H9.out.1)).trans H9.out.1, H9.out.2⟩
        refine hK.out _ _ (HSS.out _ NB.out) (fun _ => ?_)
        clear hK K
        try simp only [List.setIfInBounds_toArray, List.set_cons_zero, List.set_cons_succ]
        exact (hG _ _ _ _).1 (H10010 g c bn _ NB NG N9)
      · skip
        go_simp
        have hbn : Below w.heap.size w (w.alloc (.cells #[] 66)) := (Below.refl _ _).alloc (Nat.le_refl _) _
        have NL : Hid ((w.alloc (.cells #[] 66)).ownsRow W0.heap.size 66 1 (.slice (some ⟨w.heap.size, 0, none⟩) 0 0) 0 []) := World.ownsRow_lit (base := W0.heap.size) (e := 66) (size := 1) w #[] 0 HB.out.size (by decide) rfl
        have NB : Hid (Below W0.heap.size W0 (w.alloc (.cells #[] 66))) := HB.out.trans (hbn.mono HB.out.size)
        have N9 : Hid ((w.alloc (.cells #[] 66)).heap[bn]? = some (.cells #[.slice none 0 0, .slice none 0 0] 28) ∧ W0.heap.size ≤ bn) := ⟨(hbn.block _ (lt_of_block H9.out.1)).trans H9.out.1, H9.out.2⟩
        refine hK.out _ _ (HSS.out _ NB.out) (fun _ => ?_)
        clear hK K
        try simp only [List.setIfInBounds_toArray, List.set_cons_zero, List.set_cons_succ]
        exact (hG _ _ _ _).1 (H01010 _ bn _ NB NL N9)
      · skip
        go_simp
        have hbn : Below w.heap.size w (w.alloc (.cells #[.int .i64 0, .slice none 0 0] 24)) := (Below.refl _ _).alloc (Nat.le_refl _) _
        have N8 : Hid ((w.alloc (.cells #[.int .i64 0, .slice none 0 0] 24)).heap[w.heap.size]? = some (.cells #[.int .i64 0, .slice none 0 0] 24) ∧ W0.heap.size ≤ w.heap.size) := ⟨heap_top w _, HB.out.size⟩
        have NNE : Hid (w.heap.size ≠ bn) := fun h => by have := lt_of_block H9.out.1; omega
        have NB : Hid (Below W0.heap.size W0 (w.alloc (.cells #[.int .i64 0, .slice none 0 0] 24))) := HB.out.trans (hbn.mono HB.out.size)
        have N9 : Hid ((w.alloc (.cells #[.int .i64 0, .slice none 0 0] 24)).heap[bn]? = some (.cells #[.slice none 0 0, .slice none 0 0] 28) ∧ W0.heap.size ≤ bn) := ⟨(hbn.block _ (lt_of_block H9.out.1)).trans H9.out.1, H9.out.2⟩
        refine hK.out _ _ (HSS.out _ NB.out) (fun _ => ?_)
        clear hK K
        try simp only [List.setIfInBounds_toArray, List.set_cons_zero, List.set_cons_succ]
        exact (hG _ _ _ _).1 (H00110 _ bn _ NB N8 N9 NNE)
    have H00000 : ∀  (w : World), Hid (Below W0.heap.size W0 w) → G 9 #[true, false, true, false, false, true, true, false, false, false, false, false, false] #[.agg #[.int .i64 N, .slice a l.length cap], .agg #[.slice ba bs.length bc, .slice ca C.length cc], .agg #[.int .i64 lv, .int .i64 ce, .int .i64 ep, .slice wa ws.length wk, x], .pointer (some ⟨p, 0, none⟩), .pointer (some ⟨p + 1, 0, none⟩), .pointer (some ⟨p + 1 + 1, 0, none⟩), .bool false, undef, undef, undef, undef, undef, undef, undef, undef, undef, undef, undef, .agg #[.int .i64 N, .slice a l.length cap], .bool false, undef, .agg #[.int .i64 N, .slice a l.length cap], undef, .agg #[.slice ba bs.length bc, .slice ca C.length cc], undef, undef, .pointer (some ⟨p + 1 + 1, 3, none⟩), .slice wa ws.length wk, undef, undef, undef, undef, undef, undef, undef, undef, undef, undef, undef, undef, undef, undef, undef, undef, undef, undef, undef, undef, undef, undef, undef, undef, undef, undef, undef, undef, undef, undef, undef, undef, undef, undef, undef, undef, undef, undef, undef, undef, undef, undef, undef, undef, undef, undef, undef, undef, undef, undef, undef, undef, undef, undef, undef, undef, undef, undef, undef, undef, undef, undef, undef, undef, undef, undef, undef, undef, undef, undef, undef, undef, undef, undef, undef, undef, undef, undef, undef, undef, undef, undef, undef, undef, undef, undef, undef, undef, undef, undef, undef] w := by
      intro  w HB
      refine (hG _ _ _ _).2 ?_
      refine wpAnyH_ready (rs := [1, 4, 8, 9]) (by kernel_rfl) (by simp) ?_
      refine AllReadyH.cons rfl (fun K hK => ?_) (AllReadyH.cons rfl (fun K hK => ?_) (AllReadyH.cons rfl (fun K hK => ?_) (AllReadyH.cons rfl (fun K hK => ?_) (AllReadyH.nil))))
      · skip
        rw [if_pos (by rfl)]
        go_simp
        refine (HLG.out w HB.out).mono ?_
        rintro e w' ⟨g, c, rfl, hc1, hc2, hown, hbn⟩
        have NG : Hid ((l.length < c ∧ c ≤ 9223372036854775807) ∧ ∃ B, w'.ownsRow B 68 3 (.slice (some ⟨g, 0, none⟩) (l.length + 1) c) (l.length + 1) (cellsA (l ++ [A.mark]))) := ⟨⟨hc1, hc2⟩, _, hown⟩
        clear hown
        have NB : Hid (Below W0.heap.size W0 w') := HB.out.trans (hbn.mono HB.out.size)
        refine hK.out _ _ (HSS.out _ NB.out) (fun _ => ?_)
        clear hK K
        try simp only [List.setIfInBounds_toArray, List.set_cons_zero, List.set_cons_succ]
        exact (hG _ _ _ _).1 (H10000 g c _ NB NG)
      · skip
        go_simp
        have hbn : Below w.heap.size w (w.alloc (.cells #[] 66)) := (Below.refl _ _).alloc (Nat.le_refl _) _
        have NL : Hid ((w.alloc (.cells #[] 66)).ownsRow W0.heap.size 66 1 (.slice (some ⟨w.heap.size, 0, none⟩) 0 0) 0 []) := World.ownsRow_lit (base := W0.heap.size) (e := 66) (size := 1) w #[] 0 HB.out.size (by decide) rfl
        have NB : Hid (Below W0.heap.size W0 (w.alloc (.cells #[] 66))) := HB.out.trans (hbn.mono HB.out.size)
        refine hK.out _ _ (HSS.out _ NB.out) (fun _ => ?_)
        clear hK K
        try simp only [List.setIfInBounds_toArray, List.set_cons_zero, List.set_cons_succ]
        exact (hG _ _ _ _).1 (H01000 _ _ NB NL)
      · skip
        go_simp
        have hbn : Below w.heap.size w (w.alloc (.cells #[.int .i64 0, .slice none 0 0] 24)) := (Below.refl _ _).alloc (Nat.le_refl _) _
        have N8 : Hid ((w.alloc (.cells #[.int .i64 0, .slice none 0 0] 24)).heap[w.heap.size]? = some (.cells #[.int .i64 0, .slice none 0 0] 24) ∧ W0.heap.size ≤ w.heap.size) := ⟨heap_top w _, HB.out.size⟩
        have NB : Hid (Below W0.heap.size W0 (w.alloc (.cells #[.int .i64 0, .slice none 0 0] 24))) := HB.out.trans (hbn.mono HB.out.size)
        refine hK.out _ _ (HSS.out _ NB.out) (fun _ => ?_)
        clear hK K
        try simp only [List.setIfInBounds_toArray, List.set_cons_zero, List.set_cons_succ]
        exact (hG _ _ _ _).1 (H00100 _ _ NB N8)
      · skip
        go_simp
        have hbn : Below w.heap.size w (w.alloc (.cells #[.slice none 0 0, .slice none 0 0] 28)) := (Below.refl _ _).alloc (Nat.le_refl _) _
        have N9 : Hid ((w.alloc (.cells #[.slice none 0 0, .slice none 0 0] 28)).heap[w.heap.size]? = some (.cells #[.slice none 0 0, .slice none 0 0] 28) ∧ W0.heap.size ≤ w.heap.size) := ⟨heap_top w _, HB.out.size⟩
        have NB : Hid (Below W0.heap.size W0 (w.alloc (.cells #[.slice none 0 0, .slice none 0 0] 28))) := HB.out.trans (hbn.mono HB.out.size)
        refine hK.out _ _ (HSS.out _ NB.out) (fun _ => ?_)
        clear hK K
        try simp only [List.setIfInBounds_toArray, List.set_cons_zero, List.set_cons_succ]
        exact (hG _ _ _ _).1 (H00010 _ _ NB N9)
    exact H00000 Wd HB00
  case rest =>
    obtain ⟨bg, bn, g, c, xa, xc, ya, Y, yc, gi, ci, rfl, rfl, rfl, HTL, HTI⟩ := hcut
    have HB2 : Hid (Below W.heap.size W wc) := HB1.out.trans (HTL.out.be.mono HB1.out.size)
    have HXC : Hid (∀ wr, Below wc.heap.size wc wr → (wr.cell? ⟨bg, 0, none⟩ = some (.int .i64 N) ∧ wr.cell? ⟨bg, 1, none⟩ = some (.slice (some ⟨g, 0, none⟩) l.length c)) ∧ (wr.cell? ⟨bn, 0, none⟩ = some (.slice xa bs.length xc) ∧ wr.cell? ⟨bn, 1, none⟩ = some (.slice ya C.length yc)) ∧ (wr.cell? ⟨p, 0, none⟩ = some (.int .i64 N) ∧ wr.cell? ⟨p, 1, none⟩ = some (.slice a l.length cap) ∧ wr.cell? ⟨p + 1, 0, none⟩ = some (.slice ba bs.length bc) ∧ wr.cell? ⟨p + 1, 1, none⟩ = some (.slice ca C.length cc)) ∧ wr.cell? ⟨p + 1 + 1, 0, none⟩ = some (.int .i64 lv) ∧ wr.cell? ⟨p + 1 + 1, 1, none⟩ = some (.int .i64 ce) ∧ wr.cell? ⟨p + 1 + 1, 2, none⟩ = some (.int .i64 ep) ∧ wr.cell? ⟨p + 1 + 1, 3, none⟩ = some (.slice wa ws.length wk)) := fun wr hb => by
      have hbw : Below W.heap.size W wr := HB2.out.trans (hb.mono HB2.out.size)
      exact ⟨(two_cells ((hb.block _ (lt_of_block HTL.out.bg)).trans HTL.out.bg)).1, (two_cells ((hb.block _ (lt_of_block HTL.out.bn)).trans HTL.out.bn)).1, (HGN0.out.on hbw).cells, fiveQ_cells ((hbw.block _ (lt_of_block HG2.out)).trans HG2.out)⟩
    have HTS : Hid (∀ wr, Below wc.heap.size wc wr → Still wr g l ∧ Ints wr xa bs ∧ Rws wr ya Y ∧ Wts wr (some ⟨gi, 0, none⟩) ws) := fun wr hb => ⟨HTL.out.still.on hb, HTL.out.ints.on hb, HTL.out.rws.on hb, HTI.out.on hb⟩
    have HGS : Hid (∀ wr, Below wc.heap.size wc wr → GN wr p N a l cap ba bs bc ca C cc ∧ Wts wr wa ws) := fun wr hb => ⟨HGN0.out.on (HB2.out.trans (hb.mono HB2.out.size)), HID0.out.on (HB2.out.trans (hb.mono HB2.out.size))⟩
    have HEQ := Lib.hid HTL.out.eq
    have HLE := Lib.hid HTL.out.len
    have hlc := HTL.out.c1
    have hcm := HTL.out.c2
    clear HSS HLG HCN HWTS HGN1 HID1 HG21 HB00 HCB g0 g1 g2 g3 g4
    obtain ⟨X1, HXL⟩ := named (if byE N l bs (csl C) 1 ce ep ws.length = 0 then mxL (wgL l (inV N l bs (csl C) 1 ce) ws) (bdV N l bs (csl C) 1 ce) else [])
    obtain ⟨X2, HXW⟩ := named (if whE N l bs (csl C) lv ce ep = 0 then mxL (wiL l (inV N l bs (csl C) lv ce)) (bdV N l bs (csl C) lv ce) else [])
    obtain ⟨m0, HM0⟩ := named (if byE N l bs (csl C) 1 ce ep ws.length = 0 then (1 : Int) else 0)
    obtain ⟨m1, HM1⟩ := named (if byE N l bs (csl C) 1 ce ep ws.length = 0 then ce else 0)
    obtain ⟨m2, HM2⟩ := named (if byE N l bs (csl C) 1 ce ep ws.length = 0 then ep else 0)
    obtain ⟨n0, HN0⟩ := named (if whE N l bs (csl C) lv ce ep = 0 then lv else 0)
    obtain ⟨n1, HN1⟩ := named (if whE N l bs (csl C) lv ce ep = 0 then ce else 0)
    obtain ⟨n2, HN2⟩ := named (if whE N l bs (csl C) lv ce ep = 0 then ep else 0)
    obtain ⟨B1, HBB⟩ := named (byE N l bs (csl C) 1 ce ep ws.length)
    obtain ⟨B2, HWW⟩ := named (whE N l bs (csl C) lv ce ep)
    have hX1 : X1.length ≤ 1048576 := by
      rw [← HXL.out]
      split
      · have h5 := mxK_len (wgL l (inV N l bs (csl C) 1 ce) ws) (bdV N l bs (csl C) 1 ce) (bdV N l bs (csl C) 1 ce).length
        have h6 : (bdV N l bs (csl C) 1 ce).length ≤ 1024 := bd_len
        have h7 := Nat.mul_le_mul h6 h6
        unfold mxL
        omega
      · simp
    have hX2 : X2.length ≤ 1048576 := by
      rw [← HXW.out]
      split
      · have h5 := mxK_len (wiL l (inV N l bs (csl C) lv ce)) (bdV N l bs (csl C) lv ce) (bdV N l bs (csl C) lv ce).length
        have h6 : (bdV N l bs (csl C) lv ce).length ≤ 1024 := bd_len
        have h7 := Nat.mul_le_mul h6 h6
        unfold mxL
        omega
      · simp
    have HWwc : Hid (Below wc.heap.size wc wc) := Below.refl _ _
    obtain ⟨s1, s2, s3, s4⟩ := HTS.out _ HWwc.out
    have HK1 := Lib.hid (leafG_any N (some ⟨g, 0, none⟩) l c xa bs xc ya Y yc ce ep (some ⟨gi, 0, none⟩) ws ci _ hl hbl s1.arcs s2 s3 s4 HWS.out)
    rw [HEQ.out, HLE.out] at HK1
    rw [HXL.out, HM0.out, HM1.out, HM2.out, HBB.out] at HK1
    clear s1 s2 s3 s4
    obtain ⟨⟨q0, q1⟩, ⟨q2, q3⟩, ⟨q4, q5, q6, q7⟩, q8, q9, q10, q11⟩ := HXC.out _ HWwc.out
    go_wp2_with fail
    refine HK1.out.mono ?_
    rintro e x1 ⟨v1, c1, rfl, hown1, hb1⟩
    have hbM1 : Below x1.heap.size x1 (x1.alloc (.cells #[.int .i64 m0, .int .i64 m1, .int .i64 m2, .slice v1 X1.length c1] 39)) := (Below.refl _ _).alloc (Nat.le_refl _) _
    have hbN1 : Below wc.heap.size wc (x1.alloc (.cells #[.int .i64 m0, .int .i64 m1, .int .i64 m2, .slice v1 X1.length c1] 39)) := hb1.trans (hbM1.mono hb1.size)
    have HWy1 : Hid (Below wc.heap.size wc (x1.alloc (.cells #[.int .i64 m0, .int .i64 m1, .int .i64 m2, .slice v1 X1.length c1] 39))) := HWwc.out.trans (hbN1.mono HWwc.out.size)
    have HO1_1 := Lib.hid (own_base (hown1.alloc (.cells #[.int .i64 m0, .int .i64 m1, .int .i64 m2, .slice v1 X1.length c1] 39)) HWwc.out.size)
    have HM1_1 := Lib.hid (heap_top x1 (.cells #[.int .i64 m0, .int .i64 m1, .int .i64 m2, .slice v1 X1.length c1] 39))
    clear HK1 hown1 hbM1 hbN1 hb1 q0 q1 q2 q3 q4 q5 q6 q7 q8 q9 q10 q11
    obtain ⟨s1, s5⟩ := HGS.out _ HWy1.out
    have HK2 := Lib.hid (rleafG_any N a l cap ba bs bc ca C cc ce ep wa ws wk _ HNA.out HWT.out hl hbl s1.arcs s1.ints s1.rws s5 HWS.out)
    rw [HXL.out, HM0.out, HM1.out, HM2.out, HBB.out] at HK2
    clear s1 s5
    obtain ⟨⟨q0, q1⟩, ⟨q2, q3⟩, ⟨q4, q5, q6, q7⟩, q8, q9, q10, q11⟩ := HXC.out _ HWy1.out
    go_wp2_with fail
    generalize (x1.alloc (.cells #[.int .i64 m0, .int .i64 m1, .int .i64 m2, .slice v1 X1.length c1] 39)) = y1 at *
    generalize hgb1 : x1.heap.size = d1 at *
    refine HK2.out.mono ?_
    rintro e x2 ⟨v2, c2, rfl, hown2, hb2⟩
    have hbM2 : Below x2.heap.size x2 (x2.alloc (.cells #[.int .i64 m0, .int .i64 m1, .int .i64 m2, .slice v2 X1.length c2] 39)) := (Below.refl _ _).alloc (Nat.le_refl _) _
    have hbN2 : Below y1.heap.size y1 (x2.alloc (.cells #[.int .i64 m0, .int .i64 m1, .int .i64 m2, .slice v2 X1.length c2] 39)) := hb2.trans (hbM2.mono hb2.size)
    have HWy2 : Hid (Below wc.heap.size wc (x2.alloc (.cells #[.int .i64 m0, .int .i64 m1, .int .i64 m2, .slice v2 X1.length c2] 39))) := HWy1.out.trans (hbN2.mono HWy1.out.size)
    have HO2_2 := Lib.hid (own_base (hown2.alloc (.cells #[.int .i64 m0, .int .i64 m1, .int .i64 m2, .slice v2 X1.length c2] 39)) HWy1.out.size)
    have HM2_2 := Lib.hid (heap_top x2 (.cells #[.int .i64 m0, .int .i64 m1, .int .i64 m2, .slice v2 X1.length c2] 39))
    have HO1_2 := Lib.hid (own_on HO1_1.out hbN2)
    have HM1_2 := Lib.hid ((hbN2.block _ (lt_of_block HM1_1.out)).trans HM1_1.out)
    have hlt2 : ∀ b, b < y1.heap.size → b ≠ x2.heap.size := fun b hb => by have := hb2.size; omega
    clear HK2 hown2 hbM2 hbN2 hb2 q0 q1 q2 q3 q4 q5 q6 q7 q8 q9 q10 q11
    obtain ⟨s1, s2, s3, s4⟩ := HTS.out _ HWy2.out
    have HK3 := Lib.hid (wholeG_any N (some ⟨g, 0, none⟩) l c xa bs xc ya Y yc lv ce ep _ hl hbl s1.arcs s2 s3 HWT.out)
    rw [HEQ.out, HLE.out] at HK3
    rw [HXW.out, HN0.out, HN1.out, HN2.out, HWW.out] at HK3
    clear s1 s2 s3 s4
    obtain ⟨⟨q0, q1⟩, ⟨q2, q3⟩, ⟨q4, q5, q6, q7⟩, q8, q9, q10, q11⟩ := HXC.out _ HWy2.out
    go_wp2_with fail
    generalize (x2.alloc (.cells #[.int .i64 m0, .int .i64 m1, .int .i64 m2, .slice v2 X1.length c2] 39)) = y2 at *
    generalize hgb2 : x2.heap.size = d2 at *
    refine HK3.out.mono ?_
    rintro e x3 ⟨v3, c3, rfl, hown3, hb3⟩
    have hbM3 : Below x3.heap.size x3 (x3.alloc (.cells #[.int .i64 n0, .int .i64 n1, .int .i64 n2, .slice v3 X2.length c3] 39)) := (Below.refl _ _).alloc (Nat.le_refl _) _
    have hbN3 : Below y2.heap.size y2 (x3.alloc (.cells #[.int .i64 n0, .int .i64 n1, .int .i64 n2, .slice v3 X2.length c3] 39)) := hb3.trans (hbM3.mono hb3.size)
    have HWy3 : Hid (Below wc.heap.size wc (x3.alloc (.cells #[.int .i64 n0, .int .i64 n1, .int .i64 n2, .slice v3 X2.length c3] 39))) := HWy2.out.trans (hbN3.mono HWy2.out.size)
    have HO3_3 := Lib.hid (own_base (hown3.alloc (.cells #[.int .i64 n0, .int .i64 n1, .int .i64 n2, .slice v3 X2.length c3] 39)) HWy2.out.size)
    have HM3_3 := Lib.hid (heap_top x3 (.cells #[.int .i64 n0, .int .i64 n1, .int .i64 n2, .slice v3 X2.length c3] 39))
    have HO1_3 := Lib.hid (own_on HO1_2.out hbN3)
    have HM1_3 := Lib.hid ((hbN3.block _ (lt_of_block HM1_2.out)).trans HM1_2.out)
    have HO2_3 := Lib.hid (own_on HO2_2.out hbN3)
    have HM2_3 := Lib.hid ((hbN3.block _ (lt_of_block HM2_2.out)).trans HM2_2.out)
    have hlt3 : ∀ b, b < y2.heap.size → b ≠ x3.heap.size := fun b hb => by have := hb3.size; omega
    clear HK3 hown3 hbM3 hbN3 hb3 q0 q1 q2 q3 q4 q5 q6 q7 q8 q9 q10 q11
    obtain ⟨s1, s5⟩ := HGS.out _ HWy3.out
    have HK4 := Lib.hid (rwholeG_any N a l cap ba bs bc ca C cc lv ce ep _ hl hbl s1.arcs s1.ints s1.rws HWT.out)
    rw [HXW.out, HN0.out, HN1.out, HN2.out, HWW.out] at HK4
    clear s1 s5
    obtain ⟨⟨q0, q1⟩, ⟨q2, q3⟩, ⟨q4, q5, q6, q7⟩, q8, q9, q10, q11⟩ := HXC.out _ HWy3.out
    go_wp2_with fail
    generalize (x3.alloc (.cells #[.int .i64 n0, .int .i64 n1, .int .i64 n2, .slice v3 X2.length c3] 39)) = y3 at *
    generalize hgb3 : x3.heap.size = d3 at *
    refine HK4.out.mono ?_
    rintro e x4 ⟨v4, c4, rfl, hown4, hb4⟩
    have hbM4 : Below x4.heap.size x4 (x4.alloc (.cells #[.int .i64 n0, .int .i64 n1, .int .i64 n2, .slice v4 X2.length c4] 39)) := (Below.refl _ _).alloc (Nat.le_refl _) _
    have hbN4 : Below y3.heap.size y3 (x4.alloc (.cells #[.int .i64 n0, .int .i64 n1, .int .i64 n2, .slice v4 X2.length c4] 39)) := hb4.trans (hbM4.mono hb4.size)
    have HWy4 : Hid (Below wc.heap.size wc (x4.alloc (.cells #[.int .i64 n0, .int .i64 n1, .int .i64 n2, .slice v4 X2.length c4] 39))) := HWy3.out.trans (hbN4.mono HWy3.out.size)
    have HO4_4 := Lib.hid (own_base (hown4.alloc (.cells #[.int .i64 n0, .int .i64 n1, .int .i64 n2, .slice v4 X2.length c4] 39)) HWy3.out.size)
    have HM4_4 := Lib.hid (heap_top x4 (.cells #[.int .i64 n0, .int .i64 n1, .int .i64 n2, .slice v4 X2.length c4] 39))
    have HO1_4 := Lib.hid (own_on HO1_3.out hbN4)
    have HM1_4 := Lib.hid ((hbN4.block _ (lt_of_block HM1_3.out)).trans HM1_3.out)
    have HO2_4 := Lib.hid (own_on HO2_3.out hbN4)
    have HM2_4 := Lib.hid ((hbN4.block _ (lt_of_block HM2_3.out)).trans HM2_3.out)
    have HO3_4 := Lib.hid (own_on HO3_3.out hbN4)
    have HM3_4 := Lib.hid ((hbN4.block _ (lt_of_block HM3_3.out)).trans HM3_3.out)
    have hlt4 : ∀ b, b < y3.heap.size → b ≠ x4.heap.size := fun b hb => by have := hb4.size; omega
    clear HK4 hown4 hbM4 hbN4 hb4 q0 q1 q2 q3 q4 q5 q6 q7 q8 q9 q10 q11
    obtain ⟨⟨r10, r11, r12, r13⟩, _⟩ := four_cells HM1_4.out
    obtain ⟨⟨r20, r21, r22, r23⟩, _⟩ := four_cells HM2_4.out
    obtain ⟨⟨r30, r31, r32, r33⟩, _⟩ := four_cells HM3_4.out
    obtain ⟨⟨r40, r41, r42, r43⟩, _⟩ := four_cells HM4_4.out
    have b1 : (B1 != B1) = false := by simp
    have b2 : (B2 != B2) = false := by simp
    have HS1 := Lib.hid (sameM_any m0 m1 m2 v1 v2 c1 c2 X1 _ (by omega) (dts_own HO1_4.out) (dts_own HO2_4.out))
    go_wp2_with fail
    generalize (x4.alloc (.cells #[.int .i64 n0, .int .i64 n1, .int .i64 n2, .slice v4 X2.length c4] 39)) = y4 at *
    generalize x4.heap.size = d4 at *
    refine HS1.out.mono ?_
    rintro e z1 ⟨rfl, hbz1⟩
    have HWz1 : Hid (Below wc.heap.size wc z1) := HWy4.out.trans (hbz1.mono HWy4.out.size)
    have HO1z := Lib.hid (own_on HO1_4.out hbz1)
    have HO3z := Lib.hid (own_on HO3_4.out hbz1)
    have HO4z := Lib.hid (own_on HO4_4.out hbz1)
    have HM1z := Lib.hid ((hbz1.block _ (lt_of_block HM1_4.out)).trans HM1_4.out)
    have HM3z := Lib.hid ((hbz1.block _ (lt_of_block HM3_4.out)).trans HM3_4.out)
    have HM4z := Lib.hid ((hbz1.block _ (lt_of_block HM4_4.out)).trans HM4_4.out)
    clear hbz1 HS1 r10 r11 r12 r13 r20 r21 r22 r23 r30 r31 r32 r33 r40 r41 r42 r43
    obtain ⟨⟨r30, r31, r32, r33⟩, _⟩ := four_cells HM3z.out
    obtain ⟨⟨r40, r41, r42, r43⟩, _⟩ := four_cells HM4z.out
    have HS2 := Lib.hid (sameM_any n0 n1 n2 v3 v4 c3 c4 X2 z1 (by omega) (dts_own HO3z.out) (dts_own HO4z.out))
    go_wp2_with fail
    refine HS2.out.mono ?_
    rintro e z2 ⟨rfl, hbz2⟩
    have HWz2 : Hid (Below wc.heap.size wc z2) := HWz1.out.trans (hbz2.mono HWz1.out.size)
    have HO1w := Lib.hid (own_on HO1z.out hbz2)
    have HO3w := Lib.hid (own_on HO3z.out hbz2)
    have HM1w := Lib.hid ((hbz2.block _ (lt_of_block HM1z.out)).trans HM1z.out)
    have HM3w := Lib.hid ((hbz2.block _ (lt_of_block HM3z.out)).trans HM3z.out)
    clear hbz2 HS2 r30 r31 r32 r33 r40 r41 r42 r43
    obtain ⟨⟨r10, r11, r12, r13⟩, _⟩ := four_cells HM1w.out
    have HP1 := Lib.hid (spoilD_gen v1 X1.length c1 wc.heap.size 3 (cellsU X1) z2 HO1w.out)
    have HNE : Hid ((Value.slice v1 X1.length c1).ownBlock ≠ some d3) := fun h => hlt3 d3 ((own_lt HO1_2.out h)) rfl
    go_wp2_with fail
    refine HP1.out.mono ?_
    rintro e z3 ⟨rfl, hbz3, hrow3, hoth3⟩
    have HWz3 : Hid (Below wc.heap.size wc z3) := HWz2.out.trans hbz3
    have HM3v := Lib.hid ((hoth3 d3 HNE.out).trans HM3w.out)
    obtain ⟨ys3, hy3⟩ := hrow3 _ _ _ _ _ _ HO3w.out
    have HO3v := Lib.hid hy3
    clear hbz3 hrow3 hoth3 hy3 HP1 r10 r11 r12 r13
    obtain ⟨⟨r30, r31, r32, r33⟩, _⟩ := four_cells HM3v.out
    have HP2 := Lib.hid (spoilD_gen v3 X2.length c3 wc.heap.size 4 ys3 z3 HO3v.out)
    go_wp2_with fail
    refine HP2.out.mono ?_
    rintro e z4 ⟨rfl, hbz4, _, _⟩
    have HWz4 : Hid (Below wc.heap.size wc z4) := HWz3.out.trans hbz4
    clear hbz4 HP2 r30 r31 r32 r33
    obtain ⟨⟨q0, q1⟩, ⟨q2, q3⟩, ⟨q4, q5, q6, q7⟩, q8, q9, q10, q11⟩ := HXC.out z4 HWz4.out
    have HKG := Lib.hid (kept_any N g c a l cap z4 hlen hlc hcm (HTS.out z4 HWz4.out).1 (HGS.out z4 HWz4.out).1.arcs)
    go_wp2_with fail
    refine HKG.out.mono ?_
    rintro e u1 ⟨rfl, hbu1⟩
    have HWu1 : Hid (Below wc.heap.size wc u1) := HWz4.out.trans (hbu1.mono HWz4.out.size)
    clear HKG hbu1 q0 q1 q2 q3 q4 q5 q6 q7 q8 q9 q10 q11
    obtain ⟨⟨q0, q1⟩, ⟨q2, q3⟩, ⟨q4, q5, q6, q7⟩, q8, q9, q10, q11⟩ := HXC.out u1 HWu1.out
    obtain ⟨s1, s2, s3, s5⟩ := HTS.out u1 HWu1.out
    have s4 := (HGS.out u1 HWu1.out).1
    have HSN := Lib.hid (sameNest_any xa ba bs xc bc ya ca Y C yc cc u1 hbl (by have := HRB.out.1; rw [HLE.out]; omega) HLE.out.symm HEQ.out.symm s2 s3 s4.ints s4.rws)
    rw [HLE.out] at HSN
    clear s1 s2 s3 s4 s5
    go_wp2_with fail
    refine HSN.out.mono ?_
    rintro e u2 ⟨rfl, hbu2⟩
    have HWu2 : Hid (Below wc.heap.size wc u2) := HWu1.out.trans (hbu2.mono HWu1.out.size)
    clear HSN hbu2 q0 q1 q2 q3 q4 q5 q6 q7 q8 q9 q10 q11
    obtain ⟨⟨q0, q1⟩, ⟨q2, q3⟩, ⟨q4, q5, q6, q7⟩, q8, q9, q10, q11⟩ := HXC.out u2 HWu2.out
    have HSW := Lib.hid (sameW_any (some ⟨gi, 0, none⟩) wa ci wk ws u2 (by omega) (HTS.out u2 HWu2.out).2.2.2 (HGS.out u2 HWu2.out).2)
    go_wp2_with fail
    refine HSW.out.mono ?_
    rintro e u3 ⟨rfl, hbu3⟩
    have HWu3 : Hid (Below wc.heap.size wc u3) := HWu2.out.trans (hbu3.mono HWu2.out.size)
    clear HSW hbu3 q0 q1 q2 q3 q4 q5 q6 q7 q8 q9 q10 q11
    go_wp2_with fail
    refine (works13_any u3).mono ?_
    rintro e u4 ⟨rfl, hbu4⟩
    have HWu4 : Hid (Below wc.heap.size wc u4) := HWu3.out.trans (hbu4.mono HWu3.out.size)
    clear hbu4
    go_wp2_with fail
    go_ret
    exact ⟨rfl, HEND.out _ (HB2.out.trans (HWu4.out.mono HB2.out.size))⟩
end Go.Proofs.YtpmjbeiclmllmaaGreat
