/-
  Contract of graph.part: the graph of the vertices that are kept.
-/
import Derived.Test.YtgkpmcpkobphpaaTInd
namespace Go.Proofs.Ytgkpmcpkobphpaa.T3
open Go.RowKit
theorem Ints.upto {w w' : World} {B : Nat} {a : Option Addr} {xs : List Int} (h : Ints w a xs) (hb : Below B w w') (hB : w.heap.size ≤ B) : Ints w' a xs := h.on (hb.mono hB)
theorem OwnA.put {w : World} {B g c : Nat} {l : List A} (h : OwnA w B (.some ⟨g, 0, none⟩) c l) (j : Nat) (x : A) (hj : j < l.length) : OwnA (((w.setCell ⟨g, j * 3, none⟩ (.int .i64 x.f)).setCell ⟨g, j * 3 + 1, none⟩ (.int .i64 x.t)).setCell ⟨g, j * 3 + 2, none⟩ (.int .u32 x.w)) B (.some ⟨g, 0, none⟩) c (l.set j x) := by
  have h1 := (h.set0 j x.f hj).set1 j x.t (by rw [List.length_set]; exact hj)
  rw [getDA_set _ _ _ _ hj, if_pos rfl, List.set_set] at h1
  have h2 := h1.set2 j x.w (by rw [List.length_set]; exact hj)
  rw [getDA_set _ _ _ _ hj, if_pos rfl, List.set_set] at h2
  exact h2
set_option maxRecDepth 100000 in
set_option maxHeartbeats 3200000 in
theorem part_any (n : Nat) (q : Nat → Bool) (a : Option Addr) (l : List A) (cap : Nat) (av : Option Addr) (cv : Nat) (ai : Option Addr) (ci : Nat) (w : World) (hn : n ≤ 1024) (hl : l.length ≤ 8192)
    (hall : ∀ x ∈ l, (0 ≤ x.f ∧ x.f < n) ∧ (0 ≤ x.t ∧ x.t < n)) (hr : Arcs w a l) (hv : Ints w av (hits q n)) (hi : Ints w ai (indI q l)) :
    Calls Try.prog 46 #[.agg #[.int .i64 n, .slice a l.length cap], .slice av (hits q n).length cv, .slice ai (indI q l).length ci] w fun e w' =>
      ∃ a' c', e = .returned (.agg #[.int .i64 ((hits q n).length : Nat), .slice a' (indA q l).length c']) ∧ OwnA w' w.heap.size a' c' (indA q l) ∧ a' ≠ none ∧ Below w.heap.size w w' := by
  obtain ⟨i0, hi0, hz0, hz1, hz2⟩ := info_parts info3
  obtain ⟨i5, hi5, hy0, hy1, hy2⟩ := info_parts info53
  have hb0 : Below w.heap.size w ((w.alloc (.cells #[.int .i64 n, .slice a l.length cap] 24)).alloc (.cells #[.int .i64 0, .slice none 0 0] 24)) := ((Below.refl _ _).alloc (Nat.le_refl _) _).alloc (by simp) _
  have hg : ((w.alloc (.cells #[.int .i64 n, .slice a l.length cap] 24)).alloc (.cells #[.int .i64 0, .slice none 0 0] 24)).heap[w.heap.size]? = some (.cells #[.int .i64 n, .slice a l.length cap] 24) := (Below.heap_alloc _ _ _ (by simp)).trans (heap_top w _)
  have h1 := heap_top (w.alloc (.cells #[.int .i64 n, .slice a l.length cap] 24)) (.cells #[.int .i64 0, .slice none 0 0] 24)
  rw [show (w.alloc (.cells #[.int .i64 n, .slice a l.length cap] 24)).heap.size = w.heap.size + 1 by simp] at h1
  generalize hW : (w.alloc (.cells #[.int .i64 n, .slice a l.length cap] 24)).alloc (.cells #[.int .i64 0, .slice none 0 0] 24) = W at *
  obtain ⟨⟨g0, g1⟩, gf0, gf1⟩ := two_cells hg
  have hvl : (hits q n).length ≤ n := hits_len _ _
  have hil : (indI q l).length ≤ l.length := hits_len _ _
  have HIDX := Lib.hid (fun j (h : j < (hits q n).length) => hits_idx (q := q) (n := n) h)
  have HINJ := Lib.hid (fun u v (hu : u < n) (hv : v < n) (e1 : q u = true) (e2 : q v = true) => hits_inj (q := q) (n := n) hu hv e1 e2)
  have HRK := Lib.hid (fun v (h1 : v < n) (h2 : q v = true) => (hits_rank (q := q) h1 h2).1)
  have HMI : Hid (∀ j, j < (indI q l).length → ∃ i : Nat, i < l.length ∧ (indI q l).getD j 0 = (i : Int) ∧ q (l.getD i A.zero).f.toNat = true ∧ q (l.getD i A.zero).t.toNat = true) := by
    show ∀ j, _
    intro j hj
    obtain ⟨i, h1, h2, h3, _⟩ := hits_idx (q := fun k => both q (l.getD k A.zero)) hj
    have h4 : q (l.getD i A.zero).f.toNat = true ∧ q (l.getD i A.zero).t.toNat = true := by simpa [both] using h2
    exact ⟨i, h1, h3, h4.1, h4.2⟩
  have HEXT : Hid (∀ Y : List A, Y.length = (indI q l).length → (∀ n, n < (indI q l).length → Y.getD n A.zero = ren q (l.getD ((indI q l).getD n 0).toNat A.zero)) → Y = indA q l) := fun Y h1 h2 => indA_ext h1 h2
  have HIL := Lib.hid (indA_len q l)
  have HALL := Lib.hid hall
  clear hall
  obtain ⟨Z, HZ⟩ := named (indA q l)
  rw [HZ.out] at HEXT HIL ⊢
  generalize hits q n = vs at *
  generalize indI q l = is at *
  obtain ⟨bv, ov, habv⟩ := hv.get
  obtain ⟨bi, oi, habi⟩ := hi.get
  obtain ⟨b, o, hab⟩ := hr.b.get
  have s0 := lt_of_block hg
  have s0' := lt_of_block h1
  go_enter Try.func46, Try.ntmps46
  go_wp2_with (at_make; refine wpList_make_full _ rfl (.tmp 15) (.tmp 15) 28 rfl W.heap.size 3 i0 (.int .i64 0) 1 Try.underlying28 hi0 hz0 hz1 .i64 .i64 n n n rfl rfl rfl rfl (by rw [hz2]; omega) (by unfold maxLen; omega) (Nat.le_refl _) ?_; intro w1 hown1 hgrow1)
  clear hW
  have hown0 : OwnL w1 W.heap.size n (List.replicate n 0) := by
    have e : (madeCells (Value.int .i64 0).cells (n * 1)).toList = cellsI (ints (List.replicate n 0)) := by
      show (madeCells #[Value.int .i64 0] (n * 1)).toList = _
      rw [toList_madeCells_one, Nat.mul_one]
      unfold cellsI ints
      simp
    rw [e] at hown1
    exact hown1
  have hb1 : Below W.heap.size W w1 := (Below.refl _ _).grown hgrow1 (Nat.le_refl _) (by intro k hk; cases hk)
  clear hown1 hgrow1
  go_loopw [19] (fun i wr => ∃ (k : Nat) (X : List Nat), k ≤ vs.length ∧ i = .int .i64 (k : Int) ∧ Hid (X.length = n) ∧ Hid (∀ v, v < n → q v = true → (hits q v).length < k → X.getD v 0 = (hits q v).length) ∧ OwnL wr W.heap.size n X ∧ Below W.heap.size W wr) (fun i _ => vs.length - (intOf i).toNat)
  case atStart => exact ⟨0, List.replicate n 0, Nat.zero_le _, rfl, by show _ = _; simp, by intro v _ _ h; omega, hown0, hb1⟩
  case round =>
    obtain ⟨k, X, hk, rfl, HX, HJ, hown, hbel⟩ := hrel
    by_cases hlt : k < vs.length
    · obtain ⟨i, hin, hqi, e1, e2⟩ := HIDX.out k hlt
      obtain ⟨rfl, hbv, hcv⟩ := habv (by omega)
      have cv := (hbel.cell (p := ⟨bv, ov + k, none⟩) (by have := hb0.size; exact Nat.lt_of_lt_of_le hbv this)).trans ((hb0.cell (p := ⟨bv, ov + k, none⟩) hbv).trans (hcv k hlt))
      rw [e1] at cv
      have cx := hown.cell HX.out i hin
      have fx := hown.free i
      have hst := hown.set i k
      have HN : Hid (∀ v, v < n → q v = true → (hits q v).length < k + 1 → (X.set i k).getD v 0 = (hits q v).length) := by
        show ∀ v, _
        intro v hv hqv hk'
        rw [getD_set _ _ _ _ (by rw [HX.out]; exact hin)]
        split
        · rename_i e; rw [e, e2]
        · rename_i e
          refine HJ.out v hv hqv ?_
          rcases Nat.lt_or_ge (hits q v).length k with h | h
          · exact h
          · exact absurd (HINJ.out v i hv hin hqv hqi (by omega)) e
      clear e1 e2 hcv
      generalize X.getD i 0 = x0 at *
      go_wp2_with fail
      exact ⟨⟨k + 1, _, by omega, by go_num, by show _ = _; rw [List.length_set]; exact HX.out, HN, hst, hbel.setCell (Nat.le_refl _) _⟩, by simp [intOf]; omega⟩
    · have HNUM : Hid (∀ v, v < n → q v = true → X.getD v 0 = (hits q v).length) := by
        show ∀ v, _
        intro v hv hqv
        exact HJ.out v hv hqv (by have := HRK.out v hv hqv; omega)
      obtain ⟨wx, hwx⟩ : ∃ x, x = wr := ⟨wr, rfl⟩
      subst hwx
      have s1 := hbel.size
      have hgr := (hbel.block _ s0).trans hg
      have hhr := (hbel.block _ s0').trans h1
      have bw := bthen hb0 hbel (by omega)
      clear g0 g1 gf0 gf1 HJ hown0 hb1 HINJ HIDX HRK
      go_wp2_with (at_make; refine wpList_make_full _ rfl (.tmp 30) (.tmp 30) 22 rfl wx.heap.size 42 i5 _ 3 Try.underlying22 hi5 hy0 hy1 .i64 .i64 is.length is.length is.length rfl rfl rfl rfl (by rw [hy2]; omega) (by unfold maxLen; omega) (Nat.le_refl _) ?_; intro w2 hown2 hgrow2)
      have hown3 : w2.ownsRow wx.heap.size 42 3 (.slice (some ⟨wx.heap.size, 0, none⟩) is.length is.length) is.length (cellsA (List.replicate is.length A.zero)) := by
        rw [← made3]; exact hown2
      have hb2 : Below wx.heap.size wx w2 := (Below.refl _ _).grown hgrow2 (Nat.le_refl _) (by intro k hk; cases hk)
      have hx2 : OwnL w2 W.heap.size n X := World.ownsRow.kept hown hgrow2 (Or.inr (by simp [Value.ownBlock]))
      have hgx : W.heap.size < wx.heap.size := hown.lt
      have hg2 := (hb2.block _ (lt_of_block hgr)).trans hgr
      have hh2 := (hb2.block _ (lt_of_block hhr)).trans hhr
      have b2 := bthen bw hb2 (by omega)
      have s2 : wx.heap.size < w2.heap.size := (World.ownsRow.lt hown3 wx.heap.size rfl).2
      clear hown2 hgrow2 hb2 hown hgr hhr bw hbel hg h1 hb0
      go_wp2_with fail
      go_loopw [34] (fun i wr => ∃ (k : Nat) (Y : List A), k ≤ is.length ∧ i = .int .i64 (k : Int) ∧ Hid (Y.length = is.length) ∧ Hid (∀ j, j < k → Y.getD j A.zero = ren q (l.getD (is.getD j 0).toNat A.zero)) ∧ wr.ownsRow wx.heap.size 42 3 (.slice (some ⟨wx.heap.size, 0, none⟩) is.length is.length) is.length (cellsA Y) ∧ OwnL wr W.heap.size n X ∧ wr.heap[w.heap.size]? = some (.cells #[.int .i64 n, .slice a l.length cap] 24) ∧ wr.heap[w.heap.size + 1]? = some (.cells #[.int .i64 0, .slice none 0 0] 24) ∧ Below w.heap.size w wr ∧ wx.heap.size < wr.heap.size) (fun i _ => is.length - (intOf i).toNat)
      case atStart => exact ⟨0, _, Nat.zero_le _, rfl, by show _ = _; simp, by intro j hj; omega, hown3, hx2, hg2, hh2, b2, s2⟩
      case round =>
        obtain ⟨k, Y, hk, rfl, HY, HJ, hown, hx4, hg4, hq4, b4, s4⟩ := hrel
        clear hown3 hx2 hg2 hh2 b2 s2
        obtain ⟨⟨g0, g1⟩, gf0, gf1⟩ := two_cells hg4
        obtain ⟨⟨q0, q1⟩, qf0, qf1⟩ := two_cells hq4
        by_cases hlt : k < is.length
        · obtain ⟨i, hil2, e1, hqf, hqt⟩ := HMI.out k hlt
          obtain ⟨rfl, hbi, hci⟩ := habi (by omega)
          have ci := (b4.cell (p := ⟨bi, oi + k, none⟩) hbi).trans (hci k hlt)
          rw [e1] at ci
          obtain ⟨rfl, hbl, hat⟩ := hab (by omega)
          obtain ⟨c0, c1, c2⟩ := (hat i hil2).onB hbl b4
          have hxm := HALL.out (l.getD i A.zero) (by rw [show l.getD i A.zero = l[i] by simp [List.getD, List.getElem?_eq_getElem hil2]]; exact List.getElem_mem hil2)
          have HREN : Hid (ren q (l.getD (is.getD k 0).toNat A.zero) = ren q (l.getD i A.zero)) := by show _ = _; rw [e1, Int.toNat_natCast]
          clear e1 hci hat
          generalize l.getD i A.zero = x at *
          obtain ⟨xf, xt, xw⟩ := x
          obtain ⟨f, hf⟩ : ∃ f : Nat, xf = f := ⟨xf.toNat, by have := hxm.1.1; simp at this; omega⟩
          obtain ⟨t, ht⟩ : ∃ t : Nat, xt = t := ⟨xt.toNat, by have := hxm.2.1; simp at this; omega⟩
          subst hf ht
          have hfn : f < n := by have := hxm.1.2; simp at this; omega
          have htn : t < n := by have := hxm.2.2; simp at this; omega
          simp only [Int.toNat_natCast] at hqf hqt
          clear hxm
          have nf := hx4.cell HX.out f hfn
          have nt := hx4.cell HX.out t htn
          rw [HNUM.out f hfn hqf] at nf
          rw [HNUM.out t htn hqt] at nt
          have HREN2 : Hid (ren q (l.getD (is.getD k 0).toNat A.zero) = ⟨((hits q f).length : Nat), ((hits q t).length : Nat), xw⟩) := by show _ = _; rw [HREN.out]; unfold ren; simp
          clear hqf hqt HREN
          generalize (hits q f).length = nf' at *
          generalize (hits q t).length = nt' at *
          have hYl : k < Y.length := by rw [HY.out]; exact hlt
          have hown' : OwnA wr wx.heap.size (some ⟨wx.heap.size, 0, none⟩) is.length Y := by unfold OwnA; rw [HY.out]; exact hown
          have HO5 := Lib.hid (hown'.alloc (.cells #[.int .i64 f, .int .i64 t, .int .u32 xw] 42))
          have HX5 : Hid (OwnL (wr.alloc (.cells #[.int .i64 f, .int .i64 t, .int .u32 xw] 42)) W.heap.size n X) := World.ownsRow.alloc hx4 _
          go_wp2_with fail
          obtain ⟨d0, d1, d2⟩ := HO5.out.at k hYl
          have f0 := HO5.out.free (k * 3)
          have f1 := HO5.out.free (k * 3 + 1)
          have f2 := HO5.out.free (k * 3 + 2)
          have m0 := (((Below.refl wr.heap.size wr).alloc (Nat.le_refl _) (.cells #[.int .i64 f, .int .i64 t, .int .u32 xw] 42)).cell (p := ⟨W.heap.size, f, none⟩) (by show W.heap.size < wr.heap.size; omega)).trans nf
          have m1 := (((Below.refl wr.heap.size wr).alloc (Nat.le_refl _) (.cells #[.int .i64 f, .int .i64 t, .int .u32 xw] 42)).cell (p := ⟨W.heap.size, t, none⟩) (by show W.heap.size < wr.heap.size; omega)).trans nt
          obtain ⟨z0, z1, z2⟩ := three_cells (heap_top wr (.cells #[.int .i64 f, .int .i64 t, .int .u32 xw] 42))
          have H6 := Lib.hid ((Below.heap_alloc wr (.cells #[.int .i64 f, .int .i64 t, .int .u32 xw] 42) _ (lt_of_block hg4)).trans hg4)
          have H7 := Lib.hid ((Below.heap_alloc wr (.cells #[.int .i64 f, .int .i64 t, .int .u32 xw] 42) _ (lt_of_block hq4)).trans hq4)
          have b5 := b4.alloc b4.size (.cells #[.int .i64 f, .int .i64 t, .int .u32 xw] 42)
          have s5 : wx.heap.size < (wr.alloc (.cells #[.int .i64 f, .int .i64 t, .int .u32 xw] 42)).heap.size := by simp; omega
          generalize hW5 : wr.alloc (.cells #[.int .i64 f, .int .i64 t, .int .u32 xw] 42) = W5 at *
          generalize Y.getD k A.zero = y at *
          clear hW5 c0 c1 c2 g0 g1 gf0 gf1 q0 q1 qf0 qf1 hown' hown hg4 hq4 b4 hx4 nf nt ci
          go_region
          go_wp2_with fail
          have h9 := HO5.out.put k ⟨nf', nt', xw⟩ hYl
          have e9 : (Y.set k ⟨nf', nt', xw⟩).length = is.length := by rw [List.length_set]; exact HY.out
          refine ⟨⟨k + 1, Y.set k ⟨nf', nt', xw⟩, by omega, by go_num, e9, ?_, ?_, ?_, ?_, ?_, ?_, ?_⟩, by simp [intOf]; omega⟩
          · show ∀ j, _
            intro j hj
            rw [getDA_set _ _ _ _ hYl]
            by_cases e : j = k
            · subst e
              rw [if_pos rfl, HREN2.out]
            · rw [if_neg e, HJ.out j (by omega)]
          · unfold OwnA at h9
            rw [e9] at h9
            exact h9
          · exact ownsRow_setCell_other (ownsRow_setCell_other (ownsRow_setCell_other HX5.out (by simp [Value.ownBlock]; omega) _) (by simp [Value.ownBlock]; omega) _) (by simp [Value.ownBlock]; omega) _
          · exact (Below.heap_setCell _ _ _ _ (by show w.heap.size ≠ wx.heap.size; omega)).trans ((Below.heap_setCell _ _ _ _ (by show w.heap.size ≠ wx.heap.size; omega)).trans ((Below.heap_setCell _ _ _ _ (by show w.heap.size ≠ wx.heap.size; omega)).trans H6.out))
          · exact (Below.heap_setCell _ _ _ _ (by show w.heap.size + 1 ≠ wx.heap.size; omega)).trans ((Below.heap_setCell _ _ _ _ (by show w.heap.size + 1 ≠ wx.heap.size; omega)).trans ((Below.heap_setCell _ _ _ _ (by show w.heap.size + 1 ≠ wx.heap.size; omega)).trans H7.out))
          · exact (((b5.setCell (by show _ ≤ wx.heap.size; omega) _).setCell (by show _ ≤ wx.heap.size; omega) _).setCell (by show _ ≤ wx.heap.size; omega) _).drew
          · have := (((Below.refl 0 W5).setCell (p := ⟨wx.heap.size, k * 3, none⟩) (Nat.zero_le _) (.int .i64 nf')).setCell (p := ⟨wx.heap.size, k * 3 + 1, none⟩) (Nat.zero_le _) (.int .i64 nt')).setCell (p := ⟨wx.heap.size, k * 3 + 2, none⟩) (Nat.zero_le _) (.int .u32 xw)
            exact Nat.lt_of_lt_of_le s5 this.size
        · have hY : Y = Z := HEXT.out Y HY.out (fun j hj => HJ.out j (by omega))
          rw [hY] at hown
          have HOWN := Lib.hid hown
          clear hY hown
          go_wp2_with fail
          refine bodyPost_ret (v := .agg #[.int .i64 (vs.length : Int), .slice (some ⟨wx.heap.size, 0, none⟩) is.length is.length]) (by simp [results, Try.results46, go_sem, q0, q1]) rfl ⟨some ⟨wx.heap.size, 0, none⟩, is.length, by rw [HIL.out], ?_, (by simp), (b4.setCell (by show _ ≤ w.heap.size + 1; omega) _).setCell (by show _ ≤ w.heap.size + 1; omega) _⟩
          unfold OwnA
          rw [HIL.out]
          exact own_base (ownsRow_setCell_below (ownsRow_setCell_below HOWN.out (by show w.heap.size + 1 < _; omega) _) (by show w.heap.size + 1 < _; omega) _) (by omega)
end Go.Proofs.Ytgkpmcpkobphpaa.T3
