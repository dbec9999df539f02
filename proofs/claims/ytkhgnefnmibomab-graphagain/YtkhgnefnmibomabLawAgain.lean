/-
  The law GraphAgain: changes one behind the other are as all at once; the weights that were, given again, lead back.
-/
import Derived.Test.YtkhgnefnmibomabAgainMath
namespace Go.Proofs.Ytkhgnefnmibomab
open Go.RowKit
/-- Weights as cells. -/
def cellsU (l : List Int) : List Value := l.map (Value.int .u32)
theorem cellsU_snoc (l : List Int) (x : Int) : cellsU l ++ [.int .u32 x] = cellsU (l ++ [x]) := by unfold cellsU; simp
theorem one_u32 (x : Int) : ∀ u ∈ [Value.int .u32 x], u.oneCell' = true := by intro u hu; simp at hu; subst hu; rfl
theorem u32s_own {w : World} {B : Nat} {v : Value} {xs : List Int} (h : w.ownsRow B 32 1 v xs.length (cellsU xs)) : ∃ a c, v = .slice a xs.length c ∧ U32s w a xs := by
  rcases h.2 with ⟨rfl, h0⟩ | ⟨g, c, cur, rfl, _, hg, _⟩
  · have : xs = [] := List.eq_nil_of_length_eq_zero h0
    subst this
    exact ⟨none, 0, rfl, Or.inl rfl⟩
  · refine ⟨some ⟨g, 0, none⟩, c, rfl, Or.inr ⟨g, 0, rfl, lt_of_block hg, fun j hj => ?_⟩⟩
    rw [Nat.zero_add, World.ownsRow.cellAt h j (by omega)]
    unfold cellsU
    simp [List.getD, List.getElem?_eq_getElem hj]
theorem box_set {W3 w9 : World} {B B' blk : Nat} {x y : Value} (u v : Value) {z : Option Addr} {c : Nat} {l : List A} (hW : Below B W3 w9) (hB : B ≤ blk) (hbx : w9.heap[blk]? = some (.cells #[x, y] 24 (0, 0))) (ho : OwnA w9 B' z c l) :
    ∃ Wf, (w9.setCell ⟨blk, 0, none⟩ u).setCell ⟨blk, 1, none⟩ v = Wf ∧ Wf.heap[blk]? = some (.cells #[u, v] 24 (0, 0)) ∧ Below B W3 Wf ∧ Arcs Wf z l := by
  refine ⟨_, rfl, set_box hbx, (hW.setCell hB _).setCell hB _, ?_⟩
  have hne : (Value.slice z l.length c).ownBlock ≠ some blk := by
    intro he
    rcases ho.2 with ⟨h', _⟩ | ⟨g, c', cur, h', _, hg, _⟩
    · rw [h'] at he; cases he
    · rw [h'] at he
      have e1 : g = blk := by simpa [Value.ownBlock] using he
      subst e1
      rw [hbx] at hg
      injection hg with e5
      injection e5 with e6 e7 e8
      cases e7
  exact OwnA.arcs (B := B') (c := c) (ownsRow_setCell_other (ownsRow_setCell_other ho hne _) hne _)
theorem box_alloc {W3 w9 : World} {B B' : Nat} (u v : Value) {z : Option Addr} {c : Nat} {l : List A} (hW : Below B W3 w9) (hB : B ≤ w9.heap.size) (ho : OwnA w9 B' z c l) :
    ∃ Wf, w9.alloc (.cells #[u, v] 24) = Wf ∧ Wf.heap[w9.heap.size]? = some (.cells #[u, v] 24 (0, 0)) ∧ Below B W3 Wf ∧ Arcs Wf z l :=
  ⟨_, rfl, heap_top _ _, hW.alloc hB _, (ho.alloc _).arcs⟩
theorem one_newsU (w : World) (x : Int) : ∀ j u, [Value.int .u32 x][j]? = some u → (w.alloc (.cells #[.int .u32 x] 32)).cell? ((⟨w.heap.size, 0, none⟩ : Addr).add j) = some u := by
  intro j u hu
  match j, hu with
  | 0, hu => simp at hu; subst hu; simp [Addr.add]
set_option maxHeartbeats 6400000 in
set_option maxRecDepth 100000 in
theorem law_again (N : Int) (a : Option Addr) (l : List A) (cap : Nat) (a1 : Option Addr) (ca : List Cg) (cap1 : Nat) (a2 : Option Addr) (cb : List Cg) (cap2 : Nat) (w : World) (hlen : l.length * 24 ≤ 140737488351232) (hn : a = none → l = [] ∧ cap = 0) (hr : Arcs w a l)
    (hsa : ca.length * 16 ≤ 140737488351232) (hna : a1 = none → ca = [] ∧ cap1 = 0) (hca : Cgs w a1 ca) (hsb : cb.length * 16 ≤ 140737488351232) (hnb : a2 = none → cb = [] ∧ cap2 = 0) (hcb : Cgs w a2 cb) :
    Calls Try.prog 3 #[.agg #[.int .i64 N, .slice a l.length cap], .slice a1 ca.length cap1, .slice a2 cb.length cap2] w fun e w' => e = .returned (.bool true) ∧ Below w.heap.size w w' := by
  have hl : l.length ≤ 9223372036854775807 := by omega
  have hb0 : Below w.heap.size w (w.alloc (.cells #[.int .i64 N, .slice a l.length cap] 24)) := (Below.refl _ _).alloc (Nat.le_refl _) _
  by_cases hsum : 16384 < ca.length + cb.length
  · have hsum' : (16384 : Int) < (ca.length : Int) + (cb.length : Int) := by omega
    go_enter Try.func3, Try.ntmps3
    go_wp2_with fail
    refine (works_any _).mono ?_
    rintro e w1 ⟨rfl, hb1⟩
    have b1 := bthen hb0 hb1 (by simp)
    go_wp2_with fail
    go_ret
    exact ⟨rfl, b1⟩
  · have hsum' : ¬ (16384 : Int) < (ca.length : Int) + (cb.length : Int) := by omega
    have HN := Lib.hid hn
    have HNA := Lib.hid hna
    have HNB := Lib.hid hnb
    clear hn hna hnb
    go_enter Try.func3, Try.ntmps3
    go_wp2_with fail
    refine (works_any _).mono ?_
    rintro e w1 ⟨rfl, hb1⟩
    have hg1 := (hb1.block _ (by simp)).trans (heap_top w _)
    have b1 := bthen hb0 hb1 (by simp)
    have s1 := lt_of_block hg1
    clear hb1 hb0
    obtain ⟨⟨g0, g1⟩, _, _⟩ := two_cells hg1
    have HC1 := Lib.hid (change_any N a l cap a1 ca cap1 w1 hlen (by omega) HN.out (hr.on b1) (hca.on b1))
    unfold ChgPost at HC1
    by_cases hE : cgE N l ca = 0
    · rw [if_pos hE, if_pos hE, hE] at HC1
      have HE := Lib.hid hE
      have HTH := Lib.hid (cgE_then hE (show ca.length + cb.length ≤ 16384 by omega))
      have HL := Lib.hid (chg_len ca l)
      obtain ⟨X, HX⟩ := named (chg l ca)
      rw [HX.out] at HC1 HTH HL
      go_wp2_with fail
      refine HC1.out.mono ?_
      rintro e v2 ⟨x2, c2, rfl, ho2, hn2, hbv2⟩
      have HN2 := Lib.hid hn2
      have hbA2 := (Below.refl v2.heap.size v2).alloc (Nat.le_refl _) (.cells #[.int .i64 N, .slice x2 X.length c2] 24)
      have hb2 := bthen hbv2 hbA2 hbv2.size
      have hq2 := heap_top v2 (.cells #[.int .i64 N, .slice x2 X.length c2] 24)
      have hr2 := ho2.arcs.on hbA2
      have hg2 := (hb2.block _ s1).trans hg1
      have b2 := bthen b1 hb2 b1.size
      have hgv2 := (hbv2.block _ s1).trans hg1
      have sg2 := lt_of_block hgv2
      obtain ⟨⟨y0, y1⟩, _, _⟩ := two_cells hgv2
      clear hbA2 hbv2 hb2 ho2 hn2 HC1 hg1 b1 g0 g1
      generalize hW2 : v2.alloc (.cells #[.int .i64 N, .slice x2 X.length c2] 24) = W2 at *
      obtain ⟨⟨k0, k1⟩, _, _⟩ := two_cells hq2
      obtain ⟨⟨m0, m1⟩, _, _⟩ := two_cells hg2
      have HC2 := Lib.hid (change_any N x2 X c2 a2 cb cap2 W2 (by rw [HL.out]; exact hlen) (by omega) HN2.out hr2 (hcb.on b2))
      unfold ChgPost at HC2
      rw [HTH.out] at HC2
      obtain ⟨E, HEE⟩ := named (cgE N l (ca ++ cb))
      rw [HEE.out] at HC2
      obtain ⟨NY, HNY⟩ := named (if E = 0 then N else 0)
      obtain ⟨lY, HLY⟩ := named (if E = 0 then chg X cb else [])
      rw [HNY.out, HLY.out] at HC2
      have hlY : lY.length ≤ 9223372036854775807 := by
        rw [← HLY.out]; split
        · rw [chg_len, HL.out]; omega
        · simp
      go_wp2_with fail
      refine HC2.out.mono ?_
      rintro e v3 ⟨x3, c3, rfl, ho3, _, hbv3⟩
      have hbA3 := (Below.refl v3.heap.size v3).alloc (Nat.le_refl _) (.cells #[.int .i64 NY, .slice x3 lY.length c3] 24)
      have hb3 := bthen hbv3 hbA3 hbv3.size
      have hy3 := heap_top v3 (.cells #[.int .i64 NY, .slice x3 lY.length c3] 24)
      have hry3 := ho3.arcs.on hbA3
      have hrx3 := hr2.on hb3
      have hq3 := (hb3.block _ (lt_of_block hq2)).trans hq2
      have hg3 := (hb3.block _ (lt_of_block hg2)).trans hg2
      have b3 := bthen b2 hb3 b2.size
      clear hbA3 hbv3 hb3 ho3 HC2 hq2 hg2 b2 hr2 hW2 k0 k1 m0 m1 y0 y1 hgv2
      generalize hW3 : v3.alloc (.cells #[.int .i64 NY, .slice x3 lY.length c3] 24) = W3 at *
      have sg3 := lt_of_block hg3
      have HG3 := Lib.hid hg3
      obtain ⟨⟨gg0, gg1⟩, _, _⟩ := two_cells hg3
      have D1 : Below W3.heap.size W3 (W3.drew.alloc (.cells #[] 49)) := (Below.refl W3.heap.size W3).drew.alloc (Nat.le_refl _) _
      have D2 : Below W3.heap.size W3 ((W3.drew.alloc (.cells #[.int .i64 0, .slice none 0 0] 24)).alloc (.cells #[] 49)) := ((Below.refl W3.heap.size W3).drew.alloc (Nat.le_refl _) _).alloc (by simp) _
      have D3 : Below W3.heap.size W3 ((W3.drew.alloc (.cells #[] 49)).alloc (.cells #[.int .i64 0, .slice none 0 0] 24)) := ((Below.refl W3.heap.size W3).drew.alloc (Nat.le_refl _) _).alloc (by simp) _
      have F1 : Hid ((W3.drew.alloc (.cells #[] 49)).ownsRow W3.heap.size 49 2 (.slice (some ⟨W3.heap.size, 0, none⟩) 0 0) 0 []) := own_empty (heap_top W3.drew _) (Nat.le_refl _)
      have X2 : (W3.drew.alloc (.cells #[.int .i64 0, .slice none 0 0] 24)).heap.size = W3.heap.size + 1 := by simp
      have F2 : Hid (((W3.drew.alloc (.cells #[.int .i64 0, .slice none 0 0] 24)).alloc (.cells #[] 49)).ownsRow W3.heap.size 49 2 (.slice (some ⟨W3.heap.size + 1, 0, none⟩) 0 0) 0 []) := own_empty (by rw [← X2]; exact heap_top _ _) (by omega)
      have F3 : Hid (((W3.drew.alloc (.cells #[] 49)).alloc (.cells #[.int .i64 0, .slice none 0 0] 24)).ownsRow W3.heap.size 49 2 (.slice (some ⟨W3.heap.size, 0, none⟩) 0 0) 0 []) := own_empty ((Below.heap_alloc (W3.drew.alloc (.cells #[] 49)) _ W3.heap.size (by simp)).trans (heap_top W3.drew _)) (Nat.le_refl _)
      have X3 : (W3.drew.alloc (.cells #[] 49)).heap.size = W3.heap.size + 1 := by simp
      have T2 : Hid (((W3.drew.alloc (.cells #[.int .i64 0, .slice none 0 0] 24)).alloc (.cells #[] 49)).heap[W3.heap.size]? = some (.cells #[.int .i64 0, .slice none 0 0] 24)) := (Below.heap_alloc (W3.drew.alloc (.cells #[.int .i64 0, .slice none 0 0] 24)) _ W3.heap.size (by simp)).trans (heap_top W3.drew _)
      have T3 : Hid (((W3.drew.alloc (.cells #[] 49)).alloc (.cells #[.int .i64 0, .slice none 0 0] 24)).heap[W3.heap.size + 1]? = some (.cells #[.int .i64 0, .slice none 0 0] 24)) := (by rw [← X3]; exact heap_top _ _ : ((W3.drew.alloc (.cells #[] 49)).alloc (.cells #[.int .i64 0, .slice none 0 0] 24)).heap[W3.heap.size + 1]? = some (.cells #[.int .i64 0, .slice none 0 0] 24))
      have C1 := Lib.hid (hca.on (bthen b3 D1 b3.size))
      have C2 := Lib.hid (hca.on (bthen b3 D2 b3.size))
      have C3 := Lib.hid (hca.on (bthen b3 D3 b3.size))
      have HD1 := Lib.hid D1
      have HD2 := Lib.hid D2
      have HD3 := Lib.hid D3
      have HLA : Hid (ca.length + cb.length = (ca ++ cb).length) := (by rw [List.length_append] : ca.length + cb.length = (ca ++ cb).length)
      have HCA : Hid (cellsC ca ++ cellsC cb = cellsC (ca ++ cb)) := (cellsC_append ca cb).symm
      have HCH : Hid (∀ (W' : World) (g c : Nat), Below W3.heap.size W3 W' → Cgs W' (some ⟨g, 0, none⟩) (ca ++ cb) → Calls Try.prog 6 #[.agg #[.int .i64 N, .slice a l.length cap], .slice (some ⟨g, 0, none⟩) (ca.length + cb.length) c] W' fun e w' => MadeG W' w' e NY lY E) := by
        show ∀ (W' : World) (g c : Nat), _
        intro W' g c hW' hcg
        have h := change_any N a l cap (some ⟨g, 0, none⟩) (ca ++ cb) c W' hlen (by rw [← HLA.out]; omega) HN.out (hr.on (bthen b3 hW' b3.size)) hcg
        unfold ChgPost at h
        rw [HEE.out, chg_append, HX.out, HNY.out, HLY.out, ← HLA.out] at h
        exact h
      clear D1 D2 D3 X2 X3
      have n1 : ¬ w.heap.size = W3.heap.size := by omega
      have n2 : ¬ W3.heap.size = w.heap.size := by omega
      have n3 : ¬ w.heap.size = W3.heap.size + 1 := by omega
      have n4 : ¬ W3.heap.size + 1 = w.heap.size := by omega
      go_wp2_with fail
      go_region_held3 (fun w' => w'.cell? ⟨w.heap.size, 0, none⟩ = some (.int .i64 N) ∧ w'.cell? ⟨w.heap.size, 1, none⟩ = some (.slice a l.length cap)) (go_keep) ((first
        | (refine wp_app (.tmp 46) (.tmp 47) rfl W3.heap.size _ 0 0 [] rfl F1.out a1 ca cap1 rfl HNA.out C1.out (by omega) HD1.out.size ?_; intro g7 c7 w7 hown7 hb7 hk7; have hW7 : Below W3.heap.size W3 w7 := HD1.out.trans hb7; simp only [Nat.zero_add, List.nil_append] at hown7 ⊢; have hc7 : Cgs w7 a2 cb := hcb.on (bthen b3 hW7 b3.size); have hs7 := hW7.size; have n5 : ¬ w.heap.size = w7.heap.size := (by omega); have n6 : ¬ w7.heap.size = w.heap.size := (by omega); obtain ⟨⟨p0, p1⟩, _, _⟩ := two_cells ((hW7.block _ sg3).trans HG3.out))
        | (refine wp_app (.tmp 46) (.tmp 47) rfl W3.heap.size _ 0 0 [] rfl F2.out a1 ca cap1 rfl HNA.out C2.out (by omega) HD2.out.size ?_; intro g7 c7 w7 hown7 hb7 hk7; have hW7 : Below W3.heap.size W3 w7 := HD2.out.trans hb7; simp only [Nat.zero_add, List.nil_append] at hown7 ⊢; have hc7 : Cgs w7 a2 cb := hcb.on (bthen b3 hW7 b3.size); have hs7 := hW7.size; have n5 : ¬ w.heap.size = w7.heap.size := (by omega); have n6 : ¬ w7.heap.size = w.heap.size := (by omega); obtain ⟨⟨p0, p1⟩, _, _⟩ := two_cells ((hW7.block _ sg3).trans HG3.out); have hbx7 := hk7 _ _ T2.out not49)
        | (refine wp_app (.tmp 46) (.tmp 47) rfl W3.heap.size _ 0 0 [] rfl F3.out a1 ca cap1 rfl HNA.out C3.out (by omega) HD3.out.size ?_; intro g7 c7 w7 hown7 hb7 hk7; have hW7 : Below W3.heap.size W3 w7 := HD3.out.trans hb7; simp only [Nat.zero_add, List.nil_append] at hown7 ⊢; have hc7 : Cgs w7 a2 cb := hcb.on (bthen b3 hW7 b3.size); have hs7 := hW7.size; have n5 : ¬ w.heap.size = w7.heap.size := (by omega); have n6 : ¬ w7.heap.size = w.heap.size := (by omega); obtain ⟨⟨p0, p1⟩, _, _⟩ := two_cells ((hW7.block _ sg3).trans HG3.out); have hbx7 := hk7 _ _ T3.out not49)
        | (refine wp_app (.tmp 48) (.tmp 49) rfl W3.heap.size g7 ca.length c7 (cellsC ca) rfl hown7 a2 cb cap2 rfl HNB.out hc7 (by omega) hs7 ?_; intro g8 c8 w8 hown8 hb8 hk8; have hW8 : Below W3.heap.size W3 w8 := hW7.trans hb8; rw [HCA.out] at hown8; have hs8 := hW8.size; have n7 : ¬ w.heap.size = w8.heap.size := (by omega); have n8 : ¬ w8.heap.size = w.heap.size := (by omega); obtain ⟨⟨p2, p3⟩, _, _⟩ := two_cells ((hW8.block _ sg3).trans HG3.out); have hcg8 := cgs_own HLA.out hown8; try have hbx8 := hk8 _ _ hbx7 not49)
        | (refine wp_app (.tmp 48) (.tmp 49) rfl W3.heap.size g7 ca.length c7 (cellsC ca) rfl (hown7.alloc (.cells #[.int .i64 0, .slice none 0 0] 24)) a2 cb cap2 rfl HNB.out (hc7.on ((Below.refl _ _).alloc (Nat.le_refl _) _)) (by omega) (by simp; omega) ?_; intro g8 c8 w8 hown8 hb8 hk8; have hW8 : Below W3.heap.size W3 w8 := (hW7.alloc hs7 _).trans hb8; rw [HCA.out] at hown8; have hs8 := hW8.size; have n7 : ¬ w.heap.size = w8.heap.size := (by omega); have n8 : ¬ w8.heap.size = w.heap.size := (by omega); obtain ⟨⟨p2, p3⟩, _, _⟩ := two_cells ((hW8.block _ sg3).trans HG3.out); have hcg8 := cgs_own HLA.out hown8; have hbx8 := hk8 _ _ (heap_top w7 _) not49)
        | (go_at_call 6; refine (HCH.out w8 g8 c8 hW8 hcg8).mono ?_; rintro e w9 ⟨x9, c9, rfl, ho9, _, hb9⟩; have hW9 : Below W3.heap.size W3 w9 := bthen hW8 hb9 hs8; obtain ⟨⟨p4, p5⟩, _, _⟩ := two_cells ((hW9.block _ sg3).trans HG3.out); have hs9 := hW9.size; have hrz := ho9.arcs; try (have hbx9 := (hb9.block _ (lt_of_block hbx8)).trans hbx8; obtain ⟨⟨q0, q1⟩, qf0, qf1⟩ := two_cells hbx9))
        | (go_at_call 6; refine (HCH.out (w8.alloc (.cells #[.int .i64 0, .slice none 0 0] 24)) g8 c8 (hW8.alloc hs8 _) (hcg8.on ((Below.refl _ _).alloc (Nat.le_refl _) _))).mono ?_; rintro e w9 ⟨x9, c9, rfl, ho9, _, hb9⟩; have hW9 : Below W3.heap.size W3 w9 := bthen (hW8.alloc hs8 _) hb9 (by simp; omega); obtain ⟨⟨p4, p5⟩, _, _⟩ := two_cells ((hW9.block _ sg3).trans HG3.out); have hs9 := hW9.size; have hrz := ho9.arcs; have hbx9 := (hb9.block _ (by simp)).trans (heap_top w8 _); obtain ⟨⟨q0, q1⟩, qf0, qf1⟩ := two_cells hbx9)))
      all_goals (
        first
        | (revert hbx9; intro hbx9; obtain ⟨Wf, hWf, hbz, hbw, hrw⟩ := box_set (.int .i64 NY) (.slice x9 lY.length c9) hW9 (by omega) hbx9 ho9)
        | obtain ⟨Wf, hWf, hbz, hbw, hrw⟩ := box_alloc (.int .i64 NY) (.slice x9 lY.length c9) hW9 hs9 ho9
        rw [hWf]
        have b10 := bthen b3 hbw b3.size
        have hy10 := (hbw.block _ (lt_of_block hy3)).trans hy3
        have hq10 := (hbw.block _ (lt_of_block hq3)).trans hq3
        have hg10 := (hbw.block _ sg3).trans HG3.out
        have hry10 := hry3.on hbw
        have hrx10 := hrx3.on hbw
        clear hWf hbw ho9 hW9 hrz hown7 hown8 hb7 hb8 hk7 hk8 hb9
        clear hy3 hq3 hg3 b3 hrx3 hry3 HCH
        obtain ⟨⟨ya, yb⟩, _, _⟩ := two_cells hy10
        obtain ⟨⟨za, zb⟩, _, _⟩ := two_cells hbz
        go_wp2_with fail
        refine (sameGraph_any NY x3 x9 c3 c9 lY _ hlY hry10 hrw).mono ?_
        rintro e w11 ⟨rfl, hb11⟩
        have hg11 := (hb11.block _ (lt_of_block hg10)).trans hg10
        have hq11 := (hb11.block _ (lt_of_block hq10)).trans hq10
        have b11 := bthen b10 hb11 b10.size
        have hrx11 := hrx10.on hb11
        have s11 := lt_of_block hg11
        clear hg10 hq10 hy10 hbz b10 hry10 hrw hrx10 hb11 ya yb za zb
        obtain ⟨⟨ga, gb⟩, _, _⟩ := two_cells hg11
        obtain ⟨bA, oA, hab⟩ := hr.b.get
        obtain ⟨i2, hi2, hw0, hw1, hw2⟩ := info_parts info32
        go_wp2_with fail
        go_loopw [13, 66] (fun v i wr => ∃ k : Nat, k ≤ l.length ∧ i = .int .i64 (k : Int) ∧ wr.ownsRow w11.heap.size 32 1 v k (cellsU ((l.map A.w).take k)) ∧ Below w11.heap.size w11 wr) (fun _ i _ => l.length - (intOf i).toNat)
        case atStart => exact ⟨0, Nat.zero_le _, rfl, World.ownsRow_nil _ _ _ _, Below.refl _ _⟩
        case round =>
          obtain ⟨k, hk, rfl, how, hbel⟩ := hrel
          have sbel := hbel.size
          have b12 := bthen b11 hbel b11.size
          by_cases hkl : k < l.length
          · obtain ⟨rfl, hbl, hat⟩ := hab (by omega)
            obtain ⟨ka, kb, kc⟩ := (hat k hkl).onB hbl b12
            have HTK : Hid (cellsU ((l.map A.w).take k) ++ [.int .u32 (l.getD k A.zero).w] = cellsU ((l.map A.w).take (k + 1))) := by
              show _ = _
              rw [cellsU_snoc, List.take_succ_eq_append_getElem (show k < (l.map A.w).length by simpa using hkl)]
              simp [List.getD, List.getElem?_eq_getElem hkl]
            generalize l.getD k A.zero = x at *
            obtain ⟨aw, cw, hv⟩ := own_slice how
            subst hv
            have how5 := how.alloc (.cells #[.int .i64 x.f, .int .i64 x.t, .int .u32 x.w] 34)
            have hb5 := hbel.alloc sbel (.cells #[.int .i64 x.f, .int .i64 x.t, .int .u32 x.w] 34)
            generalize cellsU ((l.map A.w).take k) = xs at *
            have HNU := Lib.hid (one_newsU (wr.alloc (.cells #[.int .i64 x.f, .int .i64 x.t, .int .u32 x.w] 34)) x.w)
            rw [show (wr.alloc (.cells #[.int .i64 x.f, .int .i64 x.t, .int .u32 x.w] 34)).heap.size = wr.heap.size + 1 by simp] at HNU
            go_wp2_with (at_builtin; refine wpList_append_own _ rfl (.tmp 70) (.tmp 73) 31 rfl w11.heap.size 32 i2 (.int .u32 0) 1 4 Try.underlying31 hi2 hw0 hw1 hw2 rfl (by decide) (.slice aw k cw) k xs rfl (how5.alloc _) ⟨wr.heap.size + 1, 0, none⟩ 1 1 [.int .u32 x.w] rfl rfl HNU.out (one_u32 _) (by unfold maxLen; omega) (by omega) (by simp; omega) ?_; intro v6 w6 hown6 hgrow6 hnil6)
            rw [HTK.out] at hown6
            have hb6 : Below w11.heap.size w11 w6 := (hb5.alloc (by simp; omega) _).grown hgrow6 (by simp; omega) (by intro k hk; exact (how5.lt k hk).1)
            exact ⟨⟨k + 1, by omega, by go_num, hown6, hb6⟩, by simp [intOf]; omega⟩
          · have ekl : k = l.length := by omega
            have hmw : (l.map A.w).length = X.length := by rw [List.length_map, HL.out]
            have hwk : (l.map A.w).length = l.length := List.length_map _
            rw [ekl, List.take_of_length_le (by rw [hwk]; exact Nat.le_refl _)] at how
            rw [← hwk] at how
            obtain ⟨aw, cw, hv, hU⟩ := u32s_own how
            have hq12 := (hbel.block _ (lt_of_block hq11)).trans hq11
            have hg12 := (hbel.block _ s11).trans hg11
            have hwE : wghE N X (l.map A.w).length = 0 := by
              unfold wghE
              rw [← HX.out, chk_chg, if_pos (cgE_zero HE.out).1, HX.out, if_pos hmw]
            have hWB : weighed X (l.map A.w) = l := by rw [← HX.out]; exact weigh_back l ca
            have hWG := weigh_any N x2 X c2 aw (l.map A.w) cw wr (by rw [HL.out]; exact hlen) HN2.out (hrx11.on hbel) hU
            rw [hwE, if_pos rfl, if_pos rfl, hWB] at hWG
            rw [hwk] at hv hWG
            subst hv
            have HWG := Lib.hid hWG
            clear hWG hWB hwE hU how hab
            obtain ⟨⟨qa, qb⟩, _, _⟩ := two_cells hq12
            obtain ⟨⟨gc, gd⟩, _, _⟩ := two_cells hg12
            clear ga gb
            go_wp2_with fail
            refine HWG.out.mono ?_
            rintro e w13 ⟨xb, cbk, rfl, hob, _, hb13⟩
            have hg13 := (hb13.block _ (lt_of_block hg12)).trans hg12
            have b13 := bthen b12 hb13 b12.size
            have hbA := (Below.refl w13.heap.size w13).alloc (Nat.le_refl _) (.cells #[.int .i64 N, .slice xb l.length cbk] 24)
            have hrb := hob.arcs.on hbA
            have b14 := bthen b13 hbA b13.size
            have s13 := lt_of_block hg13
            obtain ⟨⟨ge, gf⟩, _, _⟩ := two_cells hg13
            clear hob hb13 hbA qa qb gc gd
            go_wp2_with fail
            refine (sameGraph_any N xb a cbk cap l _ hl hrb (hr.on b14)).mono ?_
            rintro e w15 ⟨rfl, hb15⟩
            have b15 := bthen b14 hb15 b14.size
            go_wp2_with fail
            go_ret
            exact ⟨rfl, b15⟩)
    · obtain ⟨E, HE⟩ := named (cgE N l ca)
      rw [if_neg hE, if_neg hE, HE.out] at HC1
      rw [HE.out] at hE
      have hE' : (E == 0) = false := beq_eq_false_iff_ne.2 hE
      go_wp2_with fail
      refine HC1.out.mono ?_
      rintro e v2 ⟨x2, c2, rfl, ho2, hn2, hbv2⟩
      have b2 := bthen b1 hbv2 b1.size
      have b3 := b2.alloc b2.size (.cells #[.int .i64 0, .slice x2 0 c2] 24)
      clear ho2 hn2
      go_wp2_with fail
      go_ret
      exact ⟨rfl, b3⟩
end Go.Proofs.Ytkhgnefnmibomab
