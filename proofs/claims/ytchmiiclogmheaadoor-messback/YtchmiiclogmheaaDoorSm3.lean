/-
  SameMessage: whether two messages are the same. SameWeights, SameDists, SameMatrix: whether they are the same. SameMats, SameMessage: whether they are the same.
-/
import Derived.Test.YtchmiiclogmheaaDoorMe4
import Derived.Deep.QuietTactic
import Derived.BigQuiet
import Derived.Deep.RegionLaw
namespace Go.Proofs.YtchmiiclogmheaaDoor.C2
open Go.RowKit
theorem take_eq {xs ys : List Int} {k : Nat} (h : xs.take k = ys.take k) (hk : k < xs.length) (hk2 : k < ys.length) (e : xs.getD k 0 = ys.getD k 0) : xs.take (k + 1) = ys.take (k + 1) := by
  rw [List.take_succ_eq_append_getElem hk, List.take_succ_eq_append_getElem hk2, h]
  simp [List.getD, hk, hk2] at e
  rw [e]
set_option maxRecDepth 100000 in
set_option maxHeartbeats 3200000 in
theorem same35_any (a a' : Option Addr) (c c' : Nat) (xs ys : List Int) (w : World) (hl : xs.length ≤ 9223372036854775807) (hl2 : ys.length ≤ 9223372036854775807) (h : Nms .u32 w a xs) (h' : Nms .u32 w a' ys) :
    Calls Tryd.prog 35 #[.slice a xs.length c, .slice a' ys.length c'] w fun e w' => e = .returned (.bool (decide (xs = ys))) ∧ Below w.heap.size w w' := by
  obtain ⟨b, o, hab⟩ := h.get
  obtain ⟨b', o', hab'⟩ := h'.get
  have HA := Lib.hid hab
  have HA' := Lib.hid hab'
  clear h h' hab hab'
  by_cases hn : xs.length = ys.length
  rotate_left
  · have hd : decide (xs = ys) = false := decide_eq_false (fun e => hn (by rw [e]))
    rw [hd]
    have hne : ((xs.length : Int) != (ys.length : Int)) = true := by simp; omega
    clear hn hd HA HA'
    generalize xs.length = n at *
    generalize ys.length = n' at *
    go_enter Tryd.func35, Tryd.ntmps35
    go_wp2_with fail
    go_ret
    exact ⟨rfl, Below.refl _ _⟩
  obtain ⟨D, hD⟩ := named (decide (xs = ys))
  rw [hD.out]
  obtain ⟨n, hN⟩ := named xs.length
  have hN' : Hid (ys.length = n) := Lib.hid (by rw [← hn, hN.out])
  rw [hN.out] at HA hl ⊢
  rw [hN'.out] at HA' hl2 ⊢
  clear hn
  go_enter Tryd.func35, Tryd.ntmps35
  go_wp2_with fail
  go_loopw [5] (fun i wr => ∃ k q : Nat, k ≤ n ∧ i = .int .i64 k ∧ Hid (xs.take k = ys.take k) ∧ wr = w.drewN q) (fun i _ => n - (intOf i).toNat)
  case atStart => exact ⟨0, 0, Nat.zero_le _, rfl, Lib.hid rfl, rfl⟩
  case round =>
    obtain ⟨k, q, hk, rfl, HK, rfl⟩ := hrel
    by_cases hlt : k < n
    · have hlt' : (k : Int) < (n : Int) := by omega
      obtain ⟨rfl, _, hc⟩ := HA.out (by omega)
      obtain ⟨rfl, _, hc'⟩ := HA'.out (by omega)
      have c1 := hc k hlt
      have c2 := hc' k hlt
      clear hc hc' HA HA'
      by_cases he : xs.getD k 0 = ys.getD k 0
      · have HT := Lib.hid (take_eq HK.out (by rw [hN.out]; exact hlt) (by rw [hN'.out]; exact hlt) he)
        rw [← he] at c2
        clear he
        generalize xs.getD k 0 = x at *
        go_wp2_with fail
        go_quiet (fail)
        go_wp2_with fail
        exact ⟨⟨k + 1, _, by omega, by go_num, HT, rfl⟩, by simp [intOf]; omega⟩
      · have hf : Hid (D = false) := Lib.hid (by rw [← hD.out]; exact decide_eq_false (fun e => he (by rw [e])))
        have hne : (xs.getD k 0 != ys.getD k 0) = true := by simp only [bne_iff_ne, ne_eq]; exact he
        clear he
        generalize xs.getD k 0 = x at *
        generalize ys.getD k 0 = y at *
        go_wp2_with fail
        go_quiet (fail)
        go_wp2_with fail
        go_ret
        exact ⟨ret_bool hf.out.symm, (below_drewN _ _ _).trans (below_drewN _ _ _)⟩
    · have hlt' : ¬ (k : Int) < (n : Int) := by omega
      obtain rfl : k = n := by omega
      have ht : Hid (D = true) := Lib.hid (by
        rw [← hD.out]
        have := HK.out
        rw [← hN.out, List.take_length, hN.out, ← hN'.out, List.take_length] at this
        exact decide_eq_true this)
      clear HA HA'
      go_wp2_with fail
      go_ret
      exact ⟨ret_bool ht.out.symm, below_drewN _ _ _⟩
set_option maxRecDepth 100000 in
set_option maxHeartbeats 3200000 in
theorem same37_any (a a' : Option Addr) (c c' : Nat) (xs ys : List Int) (w : World) (hl : xs.length ≤ 9223372036854775807) (hl2 : ys.length ≤ 9223372036854775807) (h : Nms .u64 w a xs) (h' : Nms .u64 w a' ys) :
    Calls Tryd.prog 37 #[.slice a xs.length c, .slice a' ys.length c'] w fun e w' => e = .returned (.bool (decide (xs = ys))) ∧ Below w.heap.size w w' := by
  obtain ⟨b, o, hab⟩ := h.get
  obtain ⟨b', o', hab'⟩ := h'.get
  have HA := Lib.hid hab
  have HA' := Lib.hid hab'
  clear h h' hab hab'
  by_cases hn : xs.length = ys.length
  rotate_left
  · have hd : decide (xs = ys) = false := decide_eq_false (fun e => hn (by rw [e]))
    rw [hd]
    have hne : ((xs.length : Int) != (ys.length : Int)) = true := by simp; omega
    clear hn hd HA HA'
    generalize xs.length = n at *
    generalize ys.length = n' at *
    go_enter Tryd.func37, Tryd.ntmps37
    go_wp2_with fail
    go_ret
    exact ⟨rfl, Below.refl _ _⟩
  obtain ⟨D, hD⟩ := named (decide (xs = ys))
  rw [hD.out]
  obtain ⟨n, hN⟩ := named xs.length
  have hN' : Hid (ys.length = n) := Lib.hid (by rw [← hn, hN.out])
  rw [hN.out] at HA hl ⊢
  rw [hN'.out] at HA' hl2 ⊢
  clear hn
  go_enter Tryd.func37, Tryd.ntmps37
  go_wp2_with fail
  go_loopw [5] (fun i wr => ∃ k q : Nat, k ≤ n ∧ i = .int .i64 k ∧ Hid (xs.take k = ys.take k) ∧ wr = w.drewN q) (fun i _ => n - (intOf i).toNat)
  case atStart => exact ⟨0, 0, Nat.zero_le _, rfl, Lib.hid rfl, rfl⟩
  case round =>
    obtain ⟨k, q, hk, rfl, HK, rfl⟩ := hrel
    by_cases hlt : k < n
    · have hlt' : (k : Int) < (n : Int) := by omega
      obtain ⟨rfl, _, hc⟩ := HA.out (by omega)
      obtain ⟨rfl, _, hc'⟩ := HA'.out (by omega)
      have c1 := hc k hlt
      have c2 := hc' k hlt
      clear hc hc' HA HA'
      by_cases he : xs.getD k 0 = ys.getD k 0
      · have HT := Lib.hid (take_eq HK.out (by rw [hN.out]; exact hlt) (by rw [hN'.out]; exact hlt) he)
        rw [← he] at c2
        clear he
        generalize xs.getD k 0 = x at *
        go_wp2_with fail
        go_quiet (fail)
        go_wp2_with fail
        exact ⟨⟨k + 1, _, by omega, by go_num, HT, rfl⟩, by simp [intOf]; omega⟩
      · have hf : Hid (D = false) := Lib.hid (by rw [← hD.out]; exact decide_eq_false (fun e => he (by rw [e])))
        have hne : (xs.getD k 0 != ys.getD k 0) = true := by simp only [bne_iff_ne, ne_eq]; exact he
        clear he
        generalize xs.getD k 0 = x at *
        generalize ys.getD k 0 = y at *
        go_wp2_with fail
        go_quiet (fail)
        go_wp2_with fail
        go_ret
        exact ⟨ret_bool hf.out.symm, (below_drewN _ _ _).trans (below_drewN _ _ _)⟩
    · have hlt' : ¬ (k : Int) < (n : Int) := by omega
      obtain rfl : k = n := by omega
      have ht : Hid (D = true) := Lib.hid (by
        rw [← hD.out]
        have := HK.out
        rw [← hN.out, List.take_length, hN.out, ← hN'.out, List.take_length] at this
        exact decide_eq_true this)
      clear HA HA'
      go_wp2_with fail
      go_ret
      exact ⟨ret_bool ht.out.symm, below_drewN _ _ _⟩
/-- Are two matrices the same? -/
def sameX (x y : MX) : Bool := decide (x.lv = y.lv) && (decide (x.ce = y.ce) && (decide (x.ep = y.ep) && decide (x.ds = y.ds)))
theorem sameX_iff {x y : MX} : sameX x y = true ↔ x = y := by
  unfold sameX
  simp only [Bool.and_eq_true, decide_eq_true_eq]
  constructor
  · rintro ⟨h1, h2, h3, h4⟩
    cases x
    cases y
    simp only at *
    subst h1 h2 h3 h4
    rfl
  · rintro rfl
    exact ⟨rfl, rfl, rfl, rfl⟩
set_option maxRecDepth 100000 in
set_option maxHeartbeats 3200000 in
theorem sameMx_any (x y : MX) (ax ay : Option Addr) (cx cy : Nat) (w : World) (hl : x.ds.length ≤ 9223372036854775807) (hl2 : y.ds.length ≤ 9223372036854775807) (h : Dts w ax x.ds) (h' : Dts w ay y.ds) :
    Calls Tryd.prog 23 #[.agg #[.int .i64 x.lv, .int .i64 x.ce, .int .i64 x.ep, .slice ax x.ds.length cx], .agg #[.int .i64 y.lv, .int .i64 y.ce, .int .i64 y.ep, .slice ay y.ds.length cy]] w fun e w' => e = .returned (.bool (sameX x y)) ∧ Below w.heap.size w w' := by
  obtain ⟨x0, x1, x2, xs⟩ := x
  obtain ⟨y0, y1, y2, ys⟩ := y
  have hb1 : Below w.heap.size w (w.alloc (.cells #[.int .i64 x0, .int .i64 x1, .int .i64 x2, .slice ax xs.length cx] 44)) := (Below.refl _ _).alloc (Nat.le_refl _) _
  have hb2 := hb1.alloc (o := .cells #[.int .i64 y0, .int .i64 y1, .int .i64 y2, .slice ay ys.length cy] 44) (by simp)
  have HB := Lib.hid hb2
  have HC := Lib.hid (same37_any ax ay cx cy xs ys _ hl hl2 (h.on hb2) (h'.on hb2))
  have HS : Hid (sameX ⟨x0, x1, x2, xs⟩ ⟨y0, y1, y2, ys⟩ = (decide (x0 = y0) && (decide (x1 = y1) && (decide (x2 = y2) && decide (xs = ys))))) := Lib.hid rfl
  rw [HS.out]
  clear h h' hb1 hb2 HS hl hl2
  generalize decide (xs = ys) = D at *
  show Calls Tryd.prog 23 #[.agg #[.int .i64 x0, .int .i64 x1, .int .i64 x2, .slice ax xs.length cx], .agg #[.int .i64 y0, .int .i64 y1, .int .i64 y2, .slice ay ys.length cy]] w _
  by_cases h0 : x0 = y0
  rotate_left
  · rw [decide_eq_false h0, Bool.false_and]
    have hne : (x0 == y0) = false := beq_eq_false_iff_ne.2 h0
    clear HC h0
    go_enter Tryd.func23, Tryd.ntmps23
    go_wp2_with fail
    go_ret
    exact ⟨rfl, HB.out⟩
  rw [decide_eq_true h0, Bool.true_and]
  subst h0
  by_cases h1 : x1 = y1
  rotate_left
  · rw [decide_eq_false h1, Bool.false_and]
    have hne : (x1 == y1) = false := beq_eq_false_iff_ne.2 h1
    clear HC h1
    go_enter Tryd.func23, Tryd.ntmps23
    go_wp2_with fail
    go_ret
    exact ⟨rfl, HB.out⟩
  rw [decide_eq_true h1, Bool.true_and]
  subst h1
  by_cases h2 : x2 = y2
  rotate_left
  · rw [decide_eq_false h2, Bool.false_and]
    have hne : (x2 == y2) = false := beq_eq_false_iff_ne.2 h2
    clear HC h2
    go_enter Tryd.func23, Tryd.ntmps23
    go_wp2_with fail
    go_ret
    exact ⟨rfl, HB.out⟩
  rw [decide_eq_true h2, Bool.true_and]
  subst h2
  go_enter Tryd.func23, Tryd.ntmps23
  go_wp2_with fail
  refine HC.out.mono ?_
  rintro e w2 ⟨rfl, hb2⟩
  have HB2 := Lib.hid (HB.out.trans (hb2.mono HB.out.size))
  clear hb2 HC
  go_wp2_with fail
  go_ret
  exact ⟨rfl, HB2.out⟩
end Go.Proofs.YtchmiiclogmheaaDoor.C2
namespace Go.Proofs.YtchmiiclogmheaaDoor.C2
open Go.RowKit
def sameXs (l l' : List MX) : Bool := decide (l.length = l'.length) && (List.range l.length).all (fun j => sameX (mat l j) (mat l' j))
theorem sameXs_iff {l l' : List MX} : sameXs l l' = true ↔ l = l' := by
  unfold sameXs
  simp only [Bool.and_eq_true, decide_eq_true_eq, List.all_eq_true, List.mem_range]
  constructor
  · rintro ⟨h1, h2⟩
    refine List.ext_getElem h1 (fun j hj hj2 => ?_)
    have := sameX_iff.1 (h2 j hj)
    simpa [mat, List.getD, hj, hj2] using this
  · rintro rfl
    exact ⟨rfl, fun j _ => sameX_iff.2 rfl⟩
set_option maxRecDepth 100000 in
set_option maxHeartbeats 6400000 in
theorem sameMats_any (a a' : Option Addr) (c c' : Nat) (l l' : List MX) (w : World) (hl : l.length ≤ 140737488351232) (hl2 : l'.length ≤ 140737488351232) (h : Mts w a l) (h' : Mts w a' l') (hd : ∀ j, j < l.length → (mat l j).ds.length ≤ 140737488351232) (hd' : ∀ j, j < l'.length → (mat l' j).ds.length ≤ 140737488351232) :
    Calls Tryd.prog 36 #[.slice a l.length c, .slice a' l'.length c'] w fun e w' => e = .returned (.bool (sameXs l l')) ∧ Below w.heap.size w w' := by
  obtain ⟨b, o, hab⟩ := h.get
  obtain ⟨b', o', hab'⟩ := h'.get
  have HA := Lib.hid hab
  have HA' := Lib.hid hab'
  have HSC := Lib.hid (fun (j : Nat) (x y : Option Addr) (cx cy : Nat) (h1 : j < l.length) (h2 : j < l'.length) (W : World) (hx : Dts W x (mat l j).ds) (hy : Dts W y (mat l' j).ds) => sameMx_any (mat l j) (mat l' j) x y cx cy W (by have := hd j h1; omega) (by have := hd' j h2; omega) hx hy)
  have HS : Hid (sameXs l l' = (decide (l.length = l'.length) && (List.range l.length).all (fun j => sameX (mat l j) (mat l' j)))) := Lib.hid rfl
  rw [HS.out]
  clear h h' hab hab' hd hd' HS
  by_cases hn : l.length = l'.length
  rotate_left
  · rw [decide_eq_false hn, Bool.false_and]
    have hne : ((l.length : Int) != (l'.length : Int)) = true := by simp; omega
    clear hn HA HA' HSC
    generalize l.length = n at *
    generalize l'.length = n' at *
    go_enter Tryd.func36, Tryd.ntmps36
    go_wp2_with fail
    go_ret
    exact ⟨rfl, Below.refl _ _⟩
  rw [decide_eq_true hn, Bool.true_and]
  obtain ⟨D, hD⟩ := named ((List.range l.length).all (fun j => sameX (mat l j) (mat l' j)))
  rw [hD.out]
  obtain ⟨n, hN⟩ := named l.length
  have hN' : Hid (l'.length = n) := Lib.hid (by rw [← hn, hN.out])
  rw [hN.out] at HA hl ⊢
  rw [hN'.out] at HA' hl2 ⊢
  rw [hN.out, hN'.out] at HSC
  clear hn
  generalize hp : w.heap.size = p at *
  go_enter Tryd.func36, Tryd.ntmps36
  go_wp2_with fail
  go_loopw [5] (fun i wr => ∃ k : Nat, k ≤ n ∧ i = .int .i64 k ∧ Hid (∀ j, j < k → sameX (mat l j) (mat l' j) = true) ∧ Hid (Below p w wr)) (fun i _ => n - (intOf i).toNat)
  case atStart => exact ⟨0, Nat.zero_le _, rfl, Lib.hid (fun j hj => by omega), Below.refl _ _⟩
  case round =>
    obtain ⟨k, hk, rfl, HK, HBR⟩ := hrel
    have hsz := HBR.out.size
    by_cases hlt : k < n
    · have hlt' : (k : Int) < (n : Int) := by omega
      obtain ⟨rfl, hb, hc⟩ := HA.out (by omega)
      obtain ⟨rfl, hb', hc'⟩ := HA'.out (by omega)
      obtain ⟨x, cx, hx, p0, p1, p2, p3⟩ := hc k hlt
      obtain ⟨y, cy, hy, r0, r1, r2, r3⟩ := hc' k hlt
      have u0 := (HBR.out.cell (p := ⟨b, o + k * 4, none⟩) (by show b < p; omega)).trans p0
      have u1 := (HBR.out.cell (p := ⟨b, o + k * 4 + 1, none⟩) (by show b < p; omega)).trans p1
      have u2 := (HBR.out.cell (p := ⟨b, o + k * 4 + 2, none⟩) (by show b < p; omega)).trans p2
      have u3 := (HBR.out.cell (p := ⟨b, o + k * 4 + 3, none⟩) (by show b < p; omega)).trans p3
      have v0 := (HBR.out.cell (p := ⟨b', o' + k * 4, none⟩) (by show b' < p; omega)).trans r0
      have v1 := (HBR.out.cell (p := ⟨b', o' + k * 4 + 1, none⟩) (by show b' < p; omega)).trans r1
      have v2 := (HBR.out.cell (p := ⟨b', o' + k * 4 + 2, none⟩) (by show b' < p; omega)).trans r2
      have v3 := (HBR.out.cell (p := ⟨b', o' + k * 4 + 3, none⟩) (by show b' < p; omega)).trans r3
      have HC : Hid (∀ W, Below wr.heap.size wr W → Calls Tryd.prog 23 #[.agg #[.int .i64 (mat l k).lv, .int .i64 (mat l k).ce, .int .i64 (mat l k).ep, .slice x (mat l k).ds.length cx], .agg #[.int .i64 (mat l' k).lv, .int .i64 (mat l' k).ce, .int .i64 (mat l' k).ep, .slice y (mat l' k).ds.length cy]] W fun e w' => e = .returned (.bool (sameX (mat l k) (mat l' k))) ∧ Below wr.heap.size wr w') := Lib.hid (fun W hW => by
        have hbw : Below p w W := HBR.out.trans (hW.mono (by omega))
        rw [← hp] at hbw
        refine (HSC.out k x y cx cy hlt hlt W (hx.on hbw) (hy.on hbw)).mono ?_
        rintro e w' ⟨rfl, h⟩
        exact ⟨rfl, hW.trans (h.mono hW.size)⟩)
      have HBD := Lib.hid (fun (h : sameX (mat l k) (mat l' k) = false) => (show D = false by
        rw [← hD.out, List.all_eq_false]
        exact ⟨k, by simp [hN.out]; omega, by rw [h]; simp⟩))
      obtain ⟨E, hE⟩ := named (sameX (mat l k) (mat l' k))
      rw [hE.out] at HC HBD
      have HK2 := Lib.hid (fun (h : E = true) j (hj : j < k + 1) => (show sameX (mat l j) (mat l' j) = true by
        by_cases e : j = k
        · rw [e, hE.out, h]
        · exact HK.out j (by omega)))
      generalize (mat l k).lv = z0 at *
      generalize (mat l k).ce = z1 at *
      generalize (mat l k).ep = z2 at *
      generalize (mat l k).ds.length = z3 at *
      generalize (mat l' k).lv = y0 at *
      generalize (mat l' k).ce = y1 at *
      generalize (mat l' k).ep = y2 at *
      generalize (mat l' k).ds.length = y3 at *
      clear hc hc' hx hy p0 p1 p2 p3 r0 r1 r2 r3 HA HA' HSC
      cases E
      · go_wp2_with fail
        go_region_law (rw [if_pos (by rfl)]; go_simp; go_at_call 23; refine (HC.out _ (by first | exact Below.refl _ _ | exact ⟨rfl, rfl, rfl, Nat.le_refl _, fun _ _ => rfl⟩)).mono ?_; rintro e w3 ⟨rfl, hb3⟩; have HB3 : Hid (Below p w w3) := HBR.out.trans (hb3.mono (by omega)); clear hb3)
        all_goals
          go_wp2_with fail
          go_ret
          first | exact ⟨ret_bool (HBD.out (by first | rfl | trivial)).symm, HB3.out⟩ | exact ⟨ret_bool (HBD.out (by first | rfl | trivial)).symm, HB3.out.drew⟩
      · go_wp2_with fail
        go_region_law (rw [if_pos (by rfl)]; go_simp; go_at_call 23; refine (HC.out _ (by first | exact Below.refl _ _ | exact ⟨rfl, rfl, rfl, Nat.le_refl _, fun _ _ => rfl⟩)).mono ?_; rintro e w3 ⟨rfl, hb3⟩; have HB3 : Hid (Below p w w3) := HBR.out.trans (hb3.mono (by omega)); clear hb3)
        all_goals
          go_wp2_with fail
          first | exact ⟨⟨k + 1, by omega, by simp, Lib.hid (HK2.out (by first | rfl | trivial)), HB3⟩, by simp [intOf]; omega⟩ | exact ⟨⟨k + 1, by omega, by simp, Lib.hid (HK2.out (by first | rfl | trivial)), HB3.out.drew⟩, by simp [intOf]; omega⟩
    · have hlt' : ¬ (k : Int) < (n : Int) := by omega
      obtain rfl : k = n := by omega
      have ht : Hid (D = true) := Lib.hid (by
        rw [← hD.out, List.all_eq_true]
        intro j hj
        rw [hN.out] at hj
        exact HK.out j (by simpa using hj))
      clear HA HA' HSC
      go_wp2_with fail
      go_ret
      exact ⟨ret_bool ht.out.symm, HBR.out⟩
end Go.Proofs.YtchmiiclogmheaaDoor.C2
namespace Go.Proofs.YtchmiiclogmheaaDoor.C2
open Go.RowKit
/-- Are two messages the same? -/
def sameM (a b : MM) : Bool := decide (a.kd = b.kd) && (decide (a.ep = b.ep) && (decide (a.lv = b.lv) && (decide (a.ce = b.ce) && (decide (a.qu = b.qu) && (decide (a.ve = b.ve) && (decide (a.ot = b.ot) && (decide (a.bk = b.bk) && (decide (a.ws = b.ws) && (sameXs a.ms b.ms && decide (a.ds = b.ds))))))))))
theorem sameM_iff {a b : MM} : sameM a b = true ↔ a = b := by
  unfold sameM
  simp only [Bool.and_eq_true, decide_eq_true_eq, sameXs_iff]
  constructor
  · rintro ⟨h0, h1, h2, h3, h4, h5, h6, h7, h8, h9, h10⟩
    cases a
    cases b
    simp only at *
    subst h0 h1 h2 h3 h4 h5 h6 h7 h8 h9 h10
    rfl
  · rintro rfl
    exact ⟨rfl, rfl, rfl, rfl, rfl, rfl, rfl, rfl, rfl, rfl, rfl⟩
/-- The lists of a message are not too long for the helpers. -/
structure Fit (m : MM) : Prop where
  wl : m.ws.length ≤ 140737488351232
  ml : m.ms.length ≤ 140737488351232
  dl : m.ds.length ≤ 140737488351232
  xl : ∀ j, j < m.ms.length → (mat m.ms j).ds.length ≤ 140737488351232
set_option maxRecDepth 100000 in
set_option maxHeartbeats 12800000 in
theorem sameMsg_any (a b : MM) (p q : Ad) (w : World) (ha : MsIn w a p) (hb : MsIn w b q) (fa : Fit a) (fb : Fit b) :
    Calls Tryd.prog 12 #[.agg (msC a p), .agg (msC b q)] w fun e w' => e = .returned (.bool (sameM a b)) ∧ Below w.heap.size w w' := by
  obtain ⟨pwa, pwc, pma, pmc, pda, pdc⟩ := p
  obtain ⟨qwa, qwc, qma, qmc, qda, qdc⟩ := q
  obtain ⟨p0, p1, p2, p3, p4, p5, p6, p7, pw, pm, pd⟩ := a
  obtain ⟨q0, q1, q2, q3, q4, q5, q6, q7, qw, qm, qd⟩ := b
  have hb1 : Below w.heap.size w (w.alloc (.cells #[.int .i64 p0, .int .i64 p1, .int .i64 p2, .int .i64 p3, .int .i64 p4, .int .i64 p5, .int .i64 p6, .int .i64 p7, .slice pwa pw.length pwc, .slice pma pm.length pmc, .slice pda pd.length pdc] 26)) := (Below.refl _ _).alloc (Nat.le_refl _) _
  have hb2 := hb1.alloc (o := (.cells #[.int .i64 q0, .int .i64 q1, .int .i64 q2, .int .i64 q3, .int .i64 q4, .int .i64 q5, .int .i64 q6, .int .i64 q7, .slice qwa qw.length qwc, .slice qma qm.length qmc, .slice qda qd.length qdc] 26)) (by simp)
  have HB := Lib.hid hb2
  have h1 := heap_top (w.alloc (.cells #[.int .i64 p0, .int .i64 p1, .int .i64 p2, .int .i64 p3, .int .i64 p4, .int .i64 p5, .int .i64 p6, .int .i64 p7, .slice pwa pw.length pwc, .slice pma pm.length pmc, .slice pda pd.length pdc] 26)) (.cells #[.int .i64 q0, .int .i64 q1, .int .i64 q2, .int .i64 q3, .int .i64 q4, .int .i64 q5, .int .i64 q6, .int .i64 q7, .slice qwa qw.length qwc, .slice qma qm.length qmc, .slice qda qd.length qdc] 26)
  have h0 := (Below.heap_alloc (w.alloc (.cells #[.int .i64 p0, .int .i64 p1, .int .i64 p2, .int .i64 p3, .int .i64 p4, .int .i64 p5, .int .i64 p6, .int .i64 p7, .slice pwa pw.length pwc, .slice pma pm.length pmc, .slice pda pd.length pdc] 26)) (.cells #[.int .i64 q0, .int .i64 q1, .int .i64 q2, .int .i64 q3, .int .i64 q4, .int .i64 q5, .int .i64 q6, .int .i64 q7, .slice qwa qw.length qwc, .slice qma qm.length qmc, .slice qda qd.length qdc] 26) w.heap.size (by simp)).trans (heap_top w (.cells #[.int .i64 p0, .int .i64 p1, .int .i64 p2, .int .i64 p3, .int .i64 p4, .int .i64 p5, .int .i64 p6, .int .i64 p7, .slice pwa pw.length pwc, .slice pma pm.length pmc, .slice pda pd.length pdc] 26))
  rw [World.size_alloc] at h1
  have HX := Lib.hid h0
  have HY := Lib.hid h1
  have HCW := Lib.hid (fun W (hW : Below w.heap.size w W) => same35_any pwa qwa pwc qwc pw qw W (by have : pw.length ≤ _ := fa.wl; omega) (by have : qw.length ≤ _ := fb.wl; omega) (ha.ws.on hW) (hb.ws.on hW))
  have HCM := Lib.hid (fun W (hW : Below w.heap.size w W) => sameMats_any pma qma pmc qmc pm qm W fa.ml fb.ml (ha.ms.on hW) (hb.ms.on hW) fa.xl fb.xl)
  have HCD := Lib.hid (fun W (hW : Below w.heap.size w W) => same37_any pda qda pdc qdc pd qd W (by have : pd.length ≤ _ := fa.dl; omega) (by have : qd.length ≤ _ := fb.dl; omega) (ha.ds.on hW) (hb.ds.on hW))
  have HS : Hid (sameM ⟨p0, p1, p2, p3, p4, p5, p6, p7, pw, pm, pd⟩ ⟨q0, q1, q2, q3, q4, q5, q6, q7, qw, qm, qd⟩ = (decide (p0 = q0) && (decide (p1 = q1) && (decide (p2 = q2) && (decide (p3 = q3) && (decide (p4 = q4) && (decide (p5 = q5) && (decide (p6 = q6) && (decide (p7 = q7) && (decide (pw = qw) && (sameXs pm qm && decide (pd = qd)))))))))))) := Lib.hid rfl
  rw [HS.out]
  clear ha hb fa fb hb1 hb2 h0 h1 HS
  show Calls Tryd.prog 12 #[.agg #[.int .i64 p0, .int .i64 p1, .int .i64 p2, .int .i64 p3, .int .i64 p4, .int .i64 p5, .int .i64 p6, .int .i64 p7, .slice pwa pw.length pwc, .slice pma pm.length pmc, .slice pda pd.length pdc], .agg #[.int .i64 q0, .int .i64 q1, .int .i64 q2, .int .i64 q3, .int .i64 q4, .int .i64 q5, .int .i64 q6, .int .i64 q7, .slice qwa qw.length qwc, .slice qma qm.length qmc, .slice qda qd.length qdc]] w _
  generalize decide (pw = qw) = D1 at *
  generalize sameXs pm qm = D2 at *
  generalize decide (pd = qd) = D3 at *
  generalize pw.length = pwl at *
  generalize qw.length = qwl at *
  generalize pm.length = pml at *
  generalize qm.length = qml at *
  generalize pd.length = pdl at *
  generalize qd.length = qdl at *
  by_cases h0 : p0 = q0
  rotate_left
  · rw [decide_eq_false h0, Bool.false_and]
    have hne : (p0 == q0) = false := beq_eq_false_iff_ne.2 h0
    clear HCW HCM HCD h0 HX HY
    go_enter Tryd.func12, Tryd.ntmps12
    go_wp2_with fail
    go_ret
    exact ⟨rfl, HB.out⟩
  rw [decide_eq_true h0, Bool.true_and]
  subst h0
  by_cases h1 : p1 = q1
  rotate_left
  · rw [decide_eq_false h1, Bool.false_and]
    have hne : (p1 == q1) = false := beq_eq_false_iff_ne.2 h1
    clear HCW HCM HCD h1 HX HY
    go_enter Tryd.func12, Tryd.ntmps12
    go_wp2_with fail
    go_ret
    exact ⟨rfl, HB.out⟩
  rw [decide_eq_true h1, Bool.true_and]
  subst h1
  by_cases h2 : p2 = q2
  rotate_left
  · rw [decide_eq_false h2, Bool.false_and]
    have hne : (p2 == q2) = false := beq_eq_false_iff_ne.2 h2
    clear HCW HCM HCD h2 HX HY
    go_enter Tryd.func12, Tryd.ntmps12
    go_wp2_with fail
    go_ret
    exact ⟨rfl, HB.out⟩
  rw [decide_eq_true h2, Bool.true_and]
  subst h2
  by_cases h3 : p3 = q3
  rotate_left
  · rw [decide_eq_false h3, Bool.false_and]
    have hne : (p3 == q3) = false := beq_eq_false_iff_ne.2 h3
    clear HCW HCM HCD h3 HX HY
    go_enter Tryd.func12, Tryd.ntmps12
    go_wp2_with fail
    go_ret
    exact ⟨rfl, HB.out⟩
  rw [decide_eq_true h3, Bool.true_and]
  subst h3
  by_cases h4 : p4 = q4
  rotate_left
  · rw [decide_eq_false h4, Bool.false_and]
    have hne : (p4 == q4) = false := beq_eq_false_iff_ne.2 h4
    clear HCW HCM HCD h4 HX HY
    go_enter Tryd.func12, Tryd.ntmps12
    go_wp2_with fail
    go_ret
    exact ⟨rfl, HB.out⟩
  rw [decide_eq_true h4, Bool.true_and]
  subst h4
  by_cases h5 : p5 = q5
  rotate_left
  · rw [decide_eq_false h5, Bool.false_and]
    have hne : (p5 == q5) = false := beq_eq_false_iff_ne.2 h5
    clear HCW HCM HCD h5 HX HY
    go_enter Tryd.func12, Tryd.ntmps12
    go_wp2_with fail
    go_ret
    exact ⟨rfl, HB.out⟩
  rw [decide_eq_true h5, Bool.true_and]
  subst h5
  by_cases h6 : p6 = q6
  rotate_left
  · rw [decide_eq_false h6, Bool.false_and]
    have hne : (p6 == q6) = false := beq_eq_false_iff_ne.2 h6
    clear HCW HCM HCD h6 HX HY
    go_enter Tryd.func12, Tryd.ntmps12
    go_wp2_with fail
    go_ret
    exact ⟨rfl, HB.out⟩
  rw [decide_eq_true h6, Bool.true_and]
  subst h6
  by_cases h7 : p7 = q7
  rotate_left
  · rw [decide_eq_false h7, Bool.false_and]
    have hne : (p7 == q7) = false := beq_eq_false_iff_ne.2 h7
    clear HCW HCM HCD h7 HX HY
    go_enter Tryd.func12, Tryd.ntmps12
    go_wp2_with fail
    go_ret
    exact ⟨rfl, HB.out⟩
  rw [decide_eq_true h7, Bool.true_and]
  subst h7
  go_enter Tryd.func12, Tryd.ntmps12
  go_wp2_with fail
  refine (HCW.out _ HB.out).mono ?_
  rintro e w2 ⟨rfl, hb2⟩
  have HB2 := Lib.hid (HB.out.trans (hb2.mono HB.out.size))
  have hx2 := (hb2.block _ (lt_of_block HX.out)).trans HX.out
  have hy2 := (hb2.block _ (lt_of_block HY.out)).trans HY.out
  have HX2 := Lib.hid hx2
  have HY2 := Lib.hid hy2
  clear hb2
  cases D1
  · clear hx2 hy2
    go_wp2_with fail
    go_ret
    exact ⟨rfl, HB2.out⟩
  obtain ⟨s0, s1, s2, s3, s4, s5, s6, s7, s8, s9, s10⟩ := cells11 hx2
  obtain ⟨t0, t1, t2, t3, t4, t5, t6, t7, t8, t9, t10⟩ := cells11 hy2
  clear hx2 hy2
  go_wp2_with fail
  clear s0 s1 s2 s3 s4 s5 s6 s7 s8 s9 s10 t0 t1 t2 t3 t4 t5 t6 t7 t8 t9 t10
  refine (HCM.out w2 HB2.out).mono ?_
  rintro e w3 ⟨rfl, hb3⟩
  have HB3 := Lib.hid (HB2.out.trans (hb3.mono HB2.out.size))
  have hx3 := (hb3.block _ (lt_of_block HX2.out)).trans HX2.out
  have hy3 := (hb3.block _ (lt_of_block HY2.out)).trans HY2.out
  have HX3 := Lib.hid hx3
  have HY3 := Lib.hid hy3
  clear hb3
  cases D2
  · clear hx3 hy3
    go_wp2_with fail
    go_ret
    exact ⟨rfl, HB3.out⟩
  obtain ⟨s0, s1, s2, s3, s4, s5, s6, s7, s8, s9, s10⟩ := cells11 hx3
  obtain ⟨t0, t1, t2, t3, t4, t5, t6, t7, t8, t9, t10⟩ := cells11 hy3
  clear hx3 hy3
  go_wp2_with fail
  clear s0 s1 s2 s3 s4 s5 s6 s7 s8 s9 s10 t0 t1 t2 t3 t4 t5 t6 t7 t8 t9 t10
  refine (HCD.out w3 HB3.out).mono ?_
  rintro e w4 ⟨rfl, hb4⟩
  have HB4 := Lib.hid (HB3.out.trans (hb4.mono HB3.out.size))
  clear hb4
  go_wp2_with fail
  go_ret
  exact ⟨rfl, HB4.out⟩
end Go.Proofs.YtchmiiclogmheaaDoor.C2
