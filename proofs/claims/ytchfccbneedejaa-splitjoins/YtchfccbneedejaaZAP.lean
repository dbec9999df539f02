/-
  Contract of the reference's Kept: of a right graph, the graph of some vertices, and what they are.
-/
import Derived.Test.YtchfccbneedejaaZAI
import Derived.Test.YtchfccbneedejaaZAO
namespace Go.Proofs.Ytchfccbneedejaa.T3
open Go.RowKit
theorem indI_step (q : Nat → Bool) (l : List A) (k : Nat) : hits (fun k => both q (l.getD k A.zero)) (k + 1) = if both q (l.getD k A.zero) then hits (fun k => both q (l.getD k A.zero)) k ++ [(k : Int)] else hits (fun k => both q (l.getD k A.zero)) k := rfl
theorem indA_step (q : Nat → Bool) (l : List A) (k : Nat) (hk : k < l.length) : indA q (l.take (k + 1)) = if both q (l.getD k A.zero) then indA q (l.take k) ++ [ren q (l.getD k A.zero)] else indA q (l.take k) := by
  have e : l.getD k A.zero = l[k] := by simp [List.getD, List.getElem?_eq_getElem hk]
  unfold indA
  rw [List.take_succ_eq_append_getElem hk, List.filter_append, List.map_append, e]
  by_cases h : both q l[k] = true
  · rw [if_pos h]; simp [h]
  · rw [if_neg h]; simp [h]
theorem own_ne {w : World} {B B' : Nat} {e e' : TypeId} {s s' : Nat} {v v' : Value} {n n' : Nat} {xs xs' : List Value} (h : w.ownsRow B e s v n xs) (h' : w.ownsRow B' e' s' v' n' xs') (hne : e ≠ e') : v.ownBlock = none ∨ v.ownBlock ≠ v'.ownBlock := by
  rcases h.2 with ⟨rfl, _⟩ | ⟨g, c, cur, rfl, _, hg, _⟩
  · exact Or.inl rfl
  · refine Or.inr fun he => ?_
    rcases h'.2 with ⟨rfl, _⟩ | ⟨g', c', cur', rfl, _, hg', _⟩
    · cases he
    · have e1 : g = g' := by simpa [Value.ownBlock] using he
      subst e1
      rw [hg] at hg'
      injection hg' with e5
      injection e5 with e6 e7 e8
      exact hne e7
theorem own_far {w : World} {B B' : Nat} {e e' : TypeId} {s s' : Nat} {v v' : Value} {n n' : Nat} {xs xs' : List Value} (h : w.ownsRow B e s v n xs) (h' : w.ownsRow B' e' s' v' n' xs') (hB : ∀ g, v.ownBlock = some g → g < B') : v.ownBlock = none ∨ v.ownBlock ≠ v'.ownBlock := by
  rcases h.2 with ⟨rfl, _⟩ | ⟨g, c, cur, rfl, _, hg, _⟩
  · exact Or.inl rfl
  · refine Or.inr fun he => ?_
    have h1 := hB g rfl
    have h2 := (h'.lt g he.symm).1
    omega
theorem one_news (w : World) (x : Int) : ∀ j u, [Value.int .i64 x][j]? = some u → (w.alloc (.cells #[.int .i64 x] 3)).cell? ((⟨w.heap.size, 0, none⟩ : Addr).add j) = some u := by
  intro j u hu
  match j, hu with
  | 0, hu => simp at hu; subst hu; simp [Addr.add]
theorem arc_news (w : World) (x : A) : ∀ j u, (cellsA [x])[j]? = some u → (w.alloc (.cells #[.int .i64 x.f, .int .i64 x.t, .int .u32 x.w] 49)).cell? ((⟨w.heap.size, 0, none⟩ : Addr).add j) = some u := by
  intro j u hu
  obtain ⟨h0, h1, h2⟩ := three_cells (heap_top w (.cells #[.int .i64 x.f, .int .i64 x.t, .int .u32 x.w] 49))
  rw [Go.WideShapes.add_plain, Nat.zero_add]
  match j, hu with
  | 0, hu => simp [cellsA] at hu; subst hu; exact h0
  | 1, hu => simp [cellsA] at hu; subst hu; exact h1
  | 2, hu => simp [cellsA] at hu; subst hu; exact h2
  | j + 3, hu => simp [cellsA] at hu
set_option maxHeartbeats 3200000 in
theorem rkept_any (n : Nat) (a : Option Addr) (l : List A) (cap : Nat) (a' : Option Addr) (q : List Bool) (cap' : Nat) (w : World) (hn : n ≤ 1024) (hl : l.length ≤ 8192) (hQ : q.length = n) (hall : ∀ x ∈ l, (0 ≤ x.f ∧ x.f < n) ∧ (0 ≤ x.t ∧ x.t < n)) (hr : Arcs w a l) (hkp : Bools (· < w.heap.size) w a' q) :
    Calls Try.prog 54 #[.agg #[.int .i64 n, .slice a l.length cap], .slice a' n cap'] w fun e w' =>
      ∃ ah ch av cv ai ci, e = .returned (.tuple #[.agg #[.int .i64 ((hits (mk q) n).length : Nat), .slice ah (indA (mk q) l).length ch], .slice av (hits (mk q) n).length cv, .slice ai (indI (mk q) l).length ci]) ∧ OwnA w' w.heap.size ah ch (indA (mk q) l) ∧ OwnI w' w.heap.size av cv (hits (mk q) n) ∧ OwnI w' w.heap.size ai ci (indI (mk q) l) ∧ Below w.heap.size w w' := by
  obtain ⟨i0, hi0, hz0, hz1, hz2⟩ := info_parts info3
  obtain ⟨i5, hi5, hy0, hy1, hy2⟩ := info_parts info53
  have hb0 : Below w.heap.size w ((w.alloc (.cells #[.int .i64 n, .slice a l.length cap] 24)).alloc (.cells #[.int .i64 0, .slice none 0 0] 24)) := ((Below.refl _ _).alloc (Nat.le_refl _) _).alloc (by simp) _
  have hg : ((w.alloc (.cells #[.int .i64 n, .slice a l.length cap] 24)).alloc (.cells #[.int .i64 0, .slice none 0 0] 24)).heap[w.heap.size]? = some (.cells #[.int .i64 n, .slice a l.length cap] 24) := (Below.heap_alloc _ _ _ (by simp)).trans (heap_top w _)
  have h1 := heap_top (w.alloc (.cells #[.int .i64 n, .slice a l.length cap] 24)) (.cells #[.int .i64 0, .slice none 0 0] 24)
  rw [show (w.alloc (.cells #[.int .i64 n, .slice a l.length cap] 24)).heap.size = w.heap.size + 1 by simp] at h1
  generalize hW : (w.alloc (.cells #[.int .i64 n, .slice a l.length cap] 24)).alloc (.cells #[.int .i64 0, .slice none 0 0] 24) = W at *
  obtain ⟨⟨g0, g1⟩, gf0, gf1⟩ := two_cells hg
  have HALL := Lib.hid hall
  have HQ := Lib.hid hQ
  obtain ⟨bk, ok, habk⟩ := hkp.get
  rw [hQ] at habk
  obtain ⟨b, o, hab⟩ := hr.b.get
  have s0 := lt_of_block hg
  have s0' := lt_of_block h1
  clear hall hQ
  obtain ⟨vs, HVS⟩ := named (hits (mk q) n)
  obtain ⟨is, HIS⟩ := named (indI (mk q) l)
  obtain ⟨Z, HZ⟩ := named (indA (mk q) l)
  rw [HVS.out, HIS.out, HZ.out]
  go_enter Try.func54, Try.ntmps54
  go_wp2_with (at_make; refine wpList_make_full _ rfl (.tmp 15) (.tmp 15) 25 rfl W.heap.size 3 i0 (.int .i64 0) 1 Try.underlying25 hi0 hz0 hz1 .i64 .i64 n n n rfl rfl rfl rfl (by rw [hz2]; omega) (by unfold maxLen; omega) (Nat.le_refl _) ?_; intro w1 hown1 hgrow1)
  clear hW
  have hX0 : OwnL w1 W.heap.size n (List.replicate n 0) := by
    have e : (madeCells (Value.int .i64 0).cells (n * 1)).toList = cellsI (ints (List.replicate n 0)) := by
      show (madeCells #[Value.int .i64 0] (n * 1)).toList = _
      rw [toList_madeCells_one, Nat.mul_one]
      unfold cellsI ints
      simp
    rw [e] at hown1
    exact hown1
  have hb1 : Below W.heap.size W w1 := (Below.refl _ _).grown hgrow1 (Nat.le_refl _) (by intro k hk; cases hk)
  have s1 : W.heap.size < w1.heap.size := hX0.lt
  clear hown1 hgrow1
  go_loopw [8, 10] (fun v i wr => ∃ (k : Nat) (X : List Nat), k ≤ n ∧ i = .int .i64 (k : Int) ∧ Hid (X.length = n) ∧ Hid (∀ v, v < k → mk q v = true → X.getD v 0 = (hits (mk q) v).length) ∧ OwnL wr W.heap.size n X ∧ wr.ownsRow w1.heap.size 3 1 v (hits (mk q) k).length (cellsI (hits (mk q) k)) ∧ Below W.heap.size W wr ∧ w1.heap.size ≤ wr.heap.size) (fun _ i _ => n - (intOf i).toNat)
  case atStart => exact ⟨0, List.replicate n 0, Nat.zero_le _, rfl, by show _ = _; simp, by intro v h; omega, hX0, World.ownsRow_nil _ _ _ _, hb1, Nat.le_refl _⟩
  case round =>
    obtain ⟨k, X, hk, rfl, HX, HJ, hoX, hoV, hbel, hsz⟩ := hrel
    have hgr := (hbel.block _ s0).trans hg
    clear g0 g1 gf0 gf1
    obtain ⟨⟨g0, g1⟩, gf0, gf1⟩ := two_cells hgr
    by_cases hkn : k < n
    · obtain ⟨rfl, hbl, hck⟩ := habk (by omega)
      have ck := (hbel.cell (p := ⟨bk, ok + k, none⟩) (by have := hb0.size; exact Nat.lt_of_lt_of_le hbl this)).trans ((hb0.cell (p := ⟨bk, ok + k, none⟩) hbl).trans (hck k hkn))
      have hhl := hits_len (mk q) k
      by_cases hq : q.getD k false = true
      · rw [hq] at ck
        have cx := hoX.cell HX.out k hkn
        have fx := hoX.free k
        have hst := hoX.set k (hits (mk q) k).length
        have HT : Hid (cellsI (hits (mk q) k) ++ [.int .i64 (k : Int)] = cellsI (hits (mk q) (k + 1))) := by show _ = _; rw [hits_t (q := mk q) hq, cellsI_snoc]
        have HTl : Hid ((hits (mk q) k).length + 1 = (hits (mk q) (k + 1)).length) := by show _ = _; rw [hits_t (q := mk q) hq]; simp
        have HN : Hid (∀ v, v < k + 1 → mk q v = true → (X.set k (hits (mk q) k).length).getD v 0 = (hits (mk q) v).length) := by
          show ∀ v, _
          intro v hv hqv
          rw [getD_set _ _ _ _ (by rw [HX.out]; exact hkn)]
          split
          · rename_i e; rw [e]
          · exact HJ.out v (by omega) hqv
        obtain ⟨av, cv, hv⟩ := own_slice hoV
        subst hv
        have hoV2 : (wr.setCell ⟨W.heap.size, k, none⟩ (.int .i64 ((hits (mk q) k).length : Nat))).ownsRow w1.heap.size 3 1 (.slice av (hits (mk q) k).length cv) (hits (mk q) k).length (cellsI (hits (mk q) k)) := ownsRow_setCell_below hoV (show W.heap.size < w1.heap.size by omega) _
        have hb2 := hbel.setCell (p := ⟨W.heap.size, k, none⟩) (Nat.le_refl _) (.int .i64 ((hits (mk q) k).length : Nat))
        have hs2 : w1.heap.size ≤ (wr.setCell ⟨W.heap.size, k, none⟩ (.int .i64 ((hits (mk q) k).length : Nat))).heap.size := by
          have := ((Below.refl 0 wr).setCell (p := ⟨W.heap.size, k, none⟩) (Nat.zero_le _) (.int .i64 ((hits (mk q) k).length : Nat))).size
          omega
        generalize X.getD k 0 = x0 at *
        generalize hits (mk q) k = xs at *
        generalize hW5 : wr.setCell ⟨W.heap.size, k, none⟩ (.int .i64 (xs.length : Nat)) = W5 at *
        have HNW := Lib.hid (one_news W5 (k : Int))
        clear hq
        go_wp2_with (at_builtin; refine wpList_append_own _ rfl (.tmp 32) (.tmp 34) 25 rfl w1.heap.size 3 i0 (.int .i64 0) 1 8 Try.underlying25 hi0 hz0 hz1 hz2 rfl (by decide) (.slice av xs.length cv) xs.length (cellsI xs) rfl (hoV2.alloc _) ⟨W5.heap.size, 0, none⟩ 1 1 [.int .i64 (k : Int)] rfl rfl HNW.out (one_i64 _) (by unfold maxLen; omega) (by omega) (by simp; omega) ?_; intro v6 w6 hown6 hgrow6 hnil6)
        rw [HT.out, HTl.out] at hown6
        have hb6 : Below W.heap.size W w6 := (hb2.alloc hb2.size _).grown hgrow6 (by have := hb2.size; simp; omega) (by intro k hk; have := (hoV2.lt k hk).1; omega)
        have hX6 : OwnL w6 W.heap.size n (X.set k xs.length) := World.ownsRow.kept (World.ownsRow.alloc hst _) hgrow6 (own_far hst hoV2 (by intro g hg; simp [Value.ownBlock] at hg; omega))
        exact ⟨⟨k + 1, _, by omega, by go_num, by show _ = _; rw [List.length_set]; exact HX.out, HN, hX6, hown6, hb6, by have := hgrow6.size; simp at this; omega⟩, by simp [intOf]; omega⟩
      · have hq' : q.getD k false = false := by simpa using hq
        rw [hq'] at ck
        have HT : Hid (hits (mk q) (k + 1) = hits (mk q) k) := hits_f (q := mk q) hq'
        have HN : Hid (∀ v, v < k + 1 → mk q v = true → X.getD v 0 = (hits (mk q) v).length) := by
          show ∀ v, _
          intro v hv hqv
          by_cases e : v = k
          · subst e
            unfold mk at hqv
            rw [hq'] at hqv
            cases hqv
          · exact HJ.out v (by omega) hqv
        clear hq hq'
        go_wp2_with fail
        exact ⟨⟨k + 1, X, by omega, by go_num, HX, HN, hoX, by rw [HT.out]; exact hoV, hbel, hsz⟩, by simp [intOf]; omega⟩
    · have ekn : k = n := by omega
      rw [ekn] at hoV HJ
      clear ekn hX0 hb1
      obtain ⟨av, cv, hv⟩ := own_slice hoV
      subst hv
      obtain ⟨wx, hwx⟩ : ∃ x, x = wr := ⟨wr, rfl⟩
      subst hwx
      have hhr := (hbel.block _ s0').trans h1
      have bx := bthen hb0 hbel hb0.size
      rw [HVS.out] at hoV ⊢
      obtain ⟨p, HP⟩ := named (fun k => both (mk q) (l.getD k A.zero))
      have HII : Hid (hits p l.length = is) := by show _ = _; rw [← HIS.out, ← HP.out]; rfl
      have hvl : vs.length ≤ n := by rw [← HVS.out]; exact hits_len _ _
      have hb9 := (Below.refl wx.heap.size wx).alloc (Nat.le_refl _) (.cells #[.int .i64 (vs.length : Int), .slice none 0 0] 24)
      have hgo9 := heap_top wx (.cells #[.int .i64 (vs.length : Int), .slice none 0 0] 24)
      have hg9 := (hb9.block _ (lt_of_block hgr)).trans hgr
      have hr9 := (hb9.block _ (lt_of_block hhr)).trans hhr
      have hX9 : OwnL (wx.alloc (.cells #[.int .i64 (vs.length : Int), .slice none 0 0] 24)) W.heap.size n X := World.ownsRow.alloc hoX _
      have hV9 := hoV.alloc (.cells #[.int .i64 (vs.length : Int), .slice none 0 0] 24)
      have bw9 := bthen bx hb9 bx.size
      have s9 : wx.heap.size < (wx.alloc (.cells #[.int .i64 (vs.length : Int), .slice none 0 0] 24)).heap.size := by simp
      have sW : W.heap.size < wx.heap.size := hoX.lt
      have HVB : Hid (∀ g, (Value.slice av vs.length cv).ownBlock = some g → g < wx.heap.size) := fun g hg => (hoV.lt g hg).2
      clear hb9 hoX hoV bx hbel hgr hhr
      have hgx := (lt_of_block hg9)
      have HF9 := Lib.hid (And.intro hgo9 (And.intro hg9 (And.intro hr9 (And.intro hX9 (And.intro hV9 (And.intro bw9 (And.intro s9 hgx)))))))
      clear hgo9 hg9 hr9 hX9 hV9 bw9 s9 hgx
      go_wp2_with fail
      obtain ⟨hgo9, hg9, hr9, hX9, hV9, bw9, s9, hgx⟩ := HF9.out
      clear g0 g1 gf0 gf1 HF9
      generalize hW9 : wx.alloc (.cells #[.int .i64 (vs.length : Int), .slice none 0 0] 24) = W9 at *
      clear hW9
      go_loopw [9, 12] (fun v i wr => ∃ (k : Nat) (vA : Value), k ≤ l.length ∧ i = .int .i64 (k : Int) ∧ wr.heap[wx.heap.size]? = some (.cells #[.int .i64 (vs.length : Int), vA] 24 (0, 0)) ∧ wr.ownsRow W9.heap.size 49 3 vA (indA (mk q) (l.take k)).length (cellsA (indA (mk q) (l.take k))) ∧ wr.ownsRow W9.heap.size 3 1 v (hits p k).length (cellsI (hits p k)) ∧ OwnL wr W.heap.size n X ∧ wr.ownsRow w1.heap.size 3 1 (.slice av vs.length cv) vs.length (cellsI vs) ∧ wr.heap[w.heap.size]? = some (.cells #[.int .i64 n, .slice a l.length cap] 24) ∧ wr.heap[w.heap.size + 1]? = some (.cells #[.int .i64 0, .slice none 0 0] 24) ∧ Below w.heap.size w wr ∧ W9.heap.size ≤ wr.heap.size) (fun _ i _ => l.length - (intOf i).toNat)
      case atStart => exact ⟨0, .slice none 0 0, Nat.zero_le _, rfl, hgo9, World.ownsRow_nil _ _ _ _, World.ownsRow_nil _ _ _ _, hX9, hV9, hg9, hr9, bw9, Nat.le_refl _⟩
      case round =>
        obtain ⟨k, vA, hk2, rfl, hgo, hoA, hoI, hoX, hoV, hg4, hr4, b4, s4⟩ := hrel
        clear hgo9 hX9 hV9 hg9 hr9 bw9
        obtain ⟨⟨g0, g1⟩, gf0, gf1⟩ := two_cells hg4
        obtain ⟨⟨e0, e1⟩, ef0, ef1⟩ := two_cells hgo
        have hsx := lt_of_block hg4
        by_cases hkl : k < l.length
        · obtain ⟨rfl, hbl, hat⟩ := hab (by omega)
          obtain ⟨c0, c1, c2⟩ := (hat k hkl).onB hbl b4
          have hxm := HALL.out (l.getD k A.zero) (by rw [show l.getD k A.zero = l[k] by simp [List.getD, List.getElem?_eq_getElem hkl]]; exact List.getElem_mem hkl)
          have HSA := Lib.hid (indA_step (mk q) l k hkl)
          have HPK : Hid (p k = both (mk q) (l.getD k A.zero)) := by show _ = _; rw [← HP.out]
          have hAl : (indA (mk q) (l.take k)).length ≤ 8192 := by
            have : (indI (mk q) (l.take k)).length ≤ (l.take k).length := hits_len _ _
            rw [indA_len]; rw [List.length_take] at this; omega
          have hIl := hits_len p k
          generalize l.getD k A.zero = x at *
          obtain ⟨xf, xt, xw⟩ := x
          obtain ⟨f, hf⟩ : ∃ f : Nat, xf = f := ⟨xf.toNat, by have := hxm.1.1; simp at this; omega⟩
          obtain ⟨t, ht⟩ : ∃ t : Nat, xt = t := ⟨xt.toNat, by have := hxm.2.1; simp at this; omega⟩
          subst hf ht
          have hfn : f < n := by have := hxm.1.2; simp at this; omega
          have htn : t < n := by have := hxm.2.2; simp at this; omega
          clear hxm
          obtain ⟨rfl, hbk, hck⟩ := habk (by omega)
          have kf := (b4.cell (p := ⟨bk, ok + f, none⟩) hbk).trans (hck f hfn)
          have kt := (b4.cell (p := ⟨bk, ok + t, none⟩) hbk).trans (hck t htn)
          have hbkw : bk < wr.heap.size := by omega
          have HB : Hid (both (mk q) ⟨(f : Int), (t : Int), xw⟩ = (q.getD f false && q.getD t false)) := by show _ = _; simp [both, mk]
          have b5 := b4.alloc (by omega) (.cells #[.int .i64 f, .int .i64 t, .int .u32 xw] 49)
          have hg5 := (Below.heap_alloc wr (.cells #[.int .i64 f, .int .i64 t, .int .u32 xw] 49) _ hsx).trans hg4
          have hr5 := (Below.heap_alloc wr (.cells #[.int .i64 f, .int .i64 t, .int .u32 xw] 49) _ (lt_of_block hr4)).trans hr4
          have hgo5 := (Below.heap_alloc wr (.cells #[.int .i64 f, .int .i64 t, .int .u32 xw] 49) _ (lt_of_block hgo)).trans hgo
          have hoA5 := hoA.alloc (.cells #[.int .i64 f, .int .i64 t, .int .u32 xw] 49)
          have hoI5 := hoI.alloc (.cells #[.int .i64 f, .int .i64 t, .int .u32 xw] 49)
          have hoX5 : OwnL (wr.alloc (.cells #[.int .i64 f, .int .i64 t, .int .u32 xw] 49)) W.heap.size n X := World.ownsRow.alloc hoX _
          have hoV5 := hoV.alloc (.cells #[.int .i64 f, .int .i64 t, .int .u32 xw] 49)
          have s5 : W9.heap.size ≤ (wr.alloc (.cells #[.int .i64 f, .int .i64 t, .int .u32 xw] 49)).heap.size := by simp; omega
          by_cases hqf : q.getD f false = true
          · by_cases hqt : q.getD t false = true
            · have HT1 : Hid (hits p k ++ [(k : Int)] = hits p (k + 1)) := (hits_t (by rw [HPK.out, HB.out, hqf, hqt]; rfl)).symm
              have HA1 : Hid (indA (mk q) (l.take (k + 1)) = indA (mk q) (l.take k) ++ [⟨((hits (mk q) f).length : Nat), ((hits (mk q) t).length : Nat), xw⟩]) := by
                show _ = _
                rw [HSA.out, HB.out, hqf, hqt]
                simp [ren]
              have nf := hoX.cell HX.out f hfn
              have nt := hoX.cell HX.out t htn
              rw [HJ.out f hfn hqf] at nf
              rw [HJ.out t htn hqt] at nt
              rw [hqf] at kf
              rw [hqt] at kt
              clear hqf hqt HB HPK HSA
              generalize (hits (mk q) f).length = nf' at *
              generalize (hits (mk q) t).length = nt' at *
              have m0 := (((Below.refl wr.heap.size wr).alloc (Nat.le_refl _) (.cells #[.int .i64 f, .int .i64 t, .int .u32 xw] 49)).cell (p := ⟨W.heap.size, f, none⟩) (by show W.heap.size < wr.heap.size; omega)).trans nf
              have m1 := (((Below.refl wr.heap.size wr).alloc (Nat.le_refl _) (.cells #[.int .i64 f, .int .i64 t, .int .u32 xw] 49)).cell (p := ⟨W.heap.size, t, none⟩) (by show W.heap.size < wr.heap.size; omega)).trans nt
              go_wp2_with fail
              have hva5 := heap_top wr (.cells #[.int .i64 f, .int .i64 t, .int .u32 xw] 49)
              obtain ⟨z0, z1, z2⟩ := three_cells hva5
              obtain ⟨⟨y0, y1⟩, yf0, yf1⟩ := two_cells hgo5
              have hAlt : ∀ k, vA.ownBlock = some k → k < wr.heap.size := fun k hk => (hoA.lt k hk).2
              have sva : wr.heap.size < (wr.alloc (.cells #[.int .i64 f, .int .i64 t, .int .u32 xw] 49)).heap.size := by simp
              clear nf nt kf kt c0 c1 c2 g0 g1 gf0 gf1 e0 e1 ef0 ef1 hgo hoA hoI hoX hoV hg4 hr4 b4
              generalize hW5 : wr.alloc (.cells #[.int .i64 f, .int .i64 t, .int .u32 xw] 49) = W5 at *
              clear hW5
              have HOA := Lib.hid (World.ownsRow.alloc (w := W5.drew) hoA5 (.cells #[.int .i64 (nf' : Int), .int .i64 (nt' : Int), .int .u32 xw] 49))
              have HNW := Lib.hid (arc_news W5.drew ⟨(nf' : Int), (nt' : Int), xw⟩)
              have HGO := Lib.hid hgo5
              have HXX := Lib.hid hoX5
              have HVA := Lib.hid hva5
              have HCA := Lib.hid (cellsA_append (indA (mk q) (l.take k)) [⟨(nf' : Int), (nt' : Int), xw⟩])
              generalize indA (mk q) (l.take k) = ZA at *
              have hgl := lt_of_block hgo5
              have hWx : W.heap.size < W5.heap.size := by omega
              refine wp_region_last (S := fun w' => w'.cell? ⟨W.heap.size, f, none⟩ = some (.int .i64 (nf' : Int)) ∧ w'.cell? ⟨W.heap.size, t, none⟩ = some (.int .i64 (nt' : Int)) ∧ w'.cell? ⟨wr.heap.size, 0, none⟩ = some (.int .i64 (f : Int)) ∧ w'.cell? ⟨wr.heap.size, 1, none⟩ = some (.int .i64 (t : Int)) ∧ w'.cell? ⟨wr.heap.size, 2, none⟩ = some (.int .u32 xw) ∧ w'.cell? ⟨wx.heap.size, 1, none⟩ = some vA) 18 _ (by kernel_rfl) (by kernel_rfl) rfl _ rfl ?_ (fun hHeld => ?_)
              · go_keep
              simp only [idled, List.modify_toArray, List.modify_succ_cons, List.modify_zero_cons, idle, List.size_toArray, List.length_cons, List.length_nil]
              repeat (
                first
                  | refine wpAnyH_take (i := 0) (v := ?_) rfl (by kernel_rfl) (by decide +kernel) (by decide +kernel) (fun _ _ _ h => h) (Or.inl ⟨by rfl, ?_⟩) (by assumption) ?_
                  | refine wpAnyH_take (i := 1) (v := ?_) rfl (by kernel_rfl) (by decide +kernel) (by decide +kernel) (fun _ _ _ h => h) (Or.inl ⟨by rfl, ?_⟩) (by assumption) ?_
                  | refine wpAnyH_take (i := 2) (v := ?_) rfl (by kernel_rfl) (by decide +kernel) (by decide +kernel) (fun _ _ _ h => h) (Or.inl ⟨by rfl, ?_⟩) (by assumption) ?_
                  | refine wpAnyH_take (i := 3) (v := ?_) rfl (by kernel_rfl) (by decide +kernel) (by decide +kernel) (fun _ _ _ h => h) (Or.inl ⟨by rfl, ?_⟩) (by assumption) ?_
                  | refine wpAnyH_take (i := 4) (v := ?_) rfl (by kernel_rfl) (by decide +kernel) (by decide +kernel) (fun _ _ _ h => h) (Or.inl ⟨by rfl, ?_⟩) (by assumption) ?_
                  | refine wpAnyH_take (i := 5) (v := ?_) rfl (by kernel_rfl) (by decide +kernel) (by decide +kernel) (fun _ _ _ h => h) (Or.inl ⟨by rfl, ?_⟩) (by assumption) ?_
                  | refine wpAnyH_take (i := 6) (v := ?_) rfl (by kernel_rfl) (by decide +kernel) (by decide +kernel) (fun _ _ _ h => h) (Or.inl ⟨by rfl, ?_⟩) (by assumption) ?_
                  | refine wpAnyH_take (i := 7) (v := ?_) rfl (by kernel_rfl) (by decide +kernel) (by decide +kernel) (fun _ _ _ h => h) (Or.inl ⟨by rfl, ?_⟩) (by assumption) ?_
                  | refine wpAnyH_take (i := 8) (v := ?_) rfl (by kernel_rfl) (by decide +kernel) (by decide +kernel) (fun _ _ _ h => h) (Or.inl ⟨by rfl, ?_⟩) (by assumption) ?_
                  | refine wpAnyH_take (i := 9) (v := ?_) rfl (by kernel_rfl) (by decide +kernel) (by decide +kernel) (fun _ _ _ h => h) (Or.inl ⟨by rfl, ?_⟩) (by assumption) ?_
                  | refine wpAnyH_take (i := 10) (v := ?_) rfl (by kernel_rfl) (by decide +kernel) (by decide +kernel) (fun _ _ _ h => h) (Or.inl ⟨by rfl, ?_⟩) (by assumption) ?_
                  | refine wpAnyH_take (i := 11) (v := ?_) rfl (by kernel_rfl) (by decide +kernel) (by decide +kernel) (fun _ _ _ h => h) (Or.inl ⟨by rfl, ?_⟩) (by assumption) ?_
                  | refine wpAnyH_take (i := 12) (v := ?_) rfl (by kernel_rfl) (by decide +kernel) (by decide +kernel) (fun _ _ _ h => h) (Or.inl ⟨by rfl, ?_⟩) (by assumption) ?_
                  | refine wpAnyH_take (i := 13) (v := ?_) rfl (by kernel_rfl) (by decide +kernel) (by decide +kernel) (fun _ _ _ h => h) (Or.inl ⟨by rfl, ?_⟩) (by assumption) ?_
                  | refine wpAnyH_take (i := 14) (v := ?_) rfl (by kernel_rfl) (by decide +kernel) (by decide +kernel) (fun _ _ _ h => h) (Or.inl ⟨by rfl, ?_⟩) (by assumption) ?_
                  | refine wpAnyH_take (i := 17) (v := ?_) rfl (by kernel_rfl) (by decide +kernel) (by decide +kernel) (fun _ _ _ h => h) (Or.inl ⟨by rfl, ?_⟩) (by assumption) ?_
                rotate_left
                · intro w hSw
                  (try dsimp only at hSw)
                  go_simp
                  (try with_reducible rfl)
                simp only [Act.put, List.getElem_toArray, List.getElem_cons_zero, List.getElem_cons_succ, List.setIfInBounds_toArray, List.set_cons_zero, List.set_cons_succ])
              refine wpAnyH_ready (rs := [15]) (by kernel_rfl) (by simp) ?_
              refine AllReadyH.cons rfl (fun K hK => ?_) AllReadyH.nil
              go_simp
              refine hK.out _ _ ?_ (fun hHeld2 => ?_)
              · go_keep
              clear hK K
              refine wpAnyH_ready (rs := [16]) (by kernel_rfl) (by simp) ?_
              refine AllReadyH.cons rfl (fun K hK => ?_) AllReadyH.nil
              rw [if_pos (by rfl)]
              refine wp_append_own _ (.tmp 64) (.tmp 78) 22 rfl W9.heap.size 49 i5 _ 3 24 Try.underlying22 hi5 hy0 hy1 hy2 rfl (by decide) vA ZA.length (cellsA ZA) rfl HOA.out ⟨W5.heap.size, 0, none⟩ 1 1 (cellsA [⟨(nf' : Int), (nt' : Int), xw⟩]) rfl rfl HNW.out (cellsA_one _) (by unfold maxLen; omega) (by omega) (by simp; omega) ?_
              intro v7 w7 hown7 hgrow7 hnil7
              obtain ⟨g7, c7, hv7, hg7, hc7, hs7, hm7⟩ := own_shape hown7 (fun e => by have := (hnil7.1 e).2; simp at this)
              rw [hv7] at hown7 ⊢
              have hgo7 := (hgrow7.block _ (by simp; omega) (by intro h; have := (HOA.out.lt _ h.symm).1; omega)).trans ((Below.heap_alloc W5.drew _ _ hgl).trans HGO.out)
              obtain ⟨⟨t0, t1⟩, tf0, tf1⟩ := two_cells hgo7
              have hva7 := (hgrow7.block _ (by simp; omega) (by intro h; have := hAlt _ h.symm; omega)).trans ((Below.heap_alloc W5.drew _ _ sva).trans HVA.out)
              obtain ⟨t2, t3, t4⟩ := three_cells hva7
              have hXa : OwnL (W5.drew.alloc (.cells #[.int .i64 (nf' : Int), .int .i64 (nt' : Int), .int .u32 xw] 49)) W.heap.size n X := World.ownsRow.alloc (w := W5.drew) HXX.out _
              have hX7 : OwnL w7 W.heap.size n X := World.ownsRow.kept hXa hgrow7 (own_far hXa HOA.out (fun g hg => by have hg' : W.heap.size = g := (Option.some.inj hg); omega))
              have t5 := (hgrow7.cell (a := ⟨W.heap.size, f, none⟩) (((Below.refl W5.heap.size W5).drew.alloc (Nat.le_refl _) _).cell (p := ⟨W.heap.size, f, none⟩) hWx |>.trans m0) (by intro h; have := (HOA.out.lt _ h.symm).1; simp at this; omega))
              have t6 := (hgrow7.cell (a := ⟨W.heap.size, t, none⟩) (((Below.refl W5.heap.size W5).drew.alloc (Nat.le_refl _) _).cell (p := ⟨W.heap.size, t, none⟩) hWx |>.trans m1) (by intro h; have := (HOA.out.lt _ h.symm).1; simp at this; omega))
              refine hK.out _ _ ?_ (fun hHeld3 => ?_)
              · go_keep
              clear hK K
              simp only [Act.put, List.getElem_toArray, List.getElem_cons_zero, List.getElem_cons_succ, List.setIfInBounds_toArray, List.set_cons_zero, List.set_cons_succ]
              repeat (
                first
                  | refine wpAnyH_take (i := 17) (v := ?_) rfl (by kernel_rfl) (by decide +kernel) (by decide +kernel) (fun _ _ _ h => h) (Or.inl ⟨by rfl, ?_⟩) (by assumption) ?_
                  | refine wpAnyH_take (i := 18) (v := ?_) rfl (by kernel_rfl) (by decide +kernel) (by decide +kernel) (fun _ _ _ h => h) (Or.inl ⟨by rfl, ?_⟩) (by assumption) ?_
                rotate_left
                · intro w hSw
                  (try dsimp only at hSw)
                  go_simp
                  (try with_reducible rfl)
                simp only [Act.put, List.getElem_toArray, List.getElem_cons_zero, List.getElem_cons_succ, List.setIfInBounds_toArray, List.set_cons_zero, List.set_cons_succ])
              refine wpAnyH_done (by kernel_rfl) ?_ _
              simp only [lastQ]
              go_simp
              have q7 : W5.drew.heap.size = W5.heap.size := rfl
              have hI7 := World.ownsRow.kept (World.ownsRow.alloc (w := W5.drew) hoI5 (.cells #[.int .i64 (nf' : Int), .int .i64 (nt' : Int), .int .u32 xw] 49)) hgrow7 (own_ne (World.ownsRow.alloc (w := W5.drew) hoI5 _) HOA.out (by decide))
              have hV7 := World.ownsRow.kept (World.ownsRow.alloc (w := W5.drew) hoV5 (.cells #[.int .i64 (nf' : Int), .int .i64 (nt' : Int), .int .u32 xw] 49)) hgrow7 (own_far (World.ownsRow.alloc (w := W5.drew) hoV5 _) HOA.out (fun g hg => by have := HVB.out g hg; omega))
              have hg7' := (hgrow7.block w.heap.size (by simp; omega) (fun h => by have := (HOA.out.lt _ h.symm).1; omega)).trans ((Below.heap_alloc W5.drew _ _ (by show w.heap.size < W5.heap.size; omega)).trans hg5)
              have hr7' := (hgrow7.block (w.heap.size + 1) (by simp; omega) (fun h => by have := (HOA.out.lt _ h.symm).1; omega)).trans ((Below.heap_alloc W5.drew _ _ (by show w.heap.size + 1 < W5.heap.size; omega)).trans hr5)
              have hsz7 := hgrow7.size
              have b7 : Below w.heap.size w w7 := ((b5.drew.alloc (by show _ ≤ W5.heap.size; omega) _)).grown hgrow7 (by simp; omega) (by intro k hk; have := (HOA.out.lt k hk).1; omega)
              have h19 : (w7.setCell ⟨wx.heap.size, 1, none⟩ (.slice (some ⟨g7, 0, none⟩) (ZA.length + 1) c7)).heap[wx.heap.size]? = some (.cells #[.int .i64 (vs.length : Int), .slice (some ⟨g7, 0, none⟩) (ZA.length + 1) c7] 24 (0, 0)) := by
                rw [heap_setCell_same w7 wx.heap.size 1 _ _ _ hgo7]
                simp
              have hA8 := ownsRow_setCell_below hown7 (a := ⟨wx.heap.size, 1, none⟩) (show wx.heap.size < W9.heap.size by omega) (.slice (some ⟨g7, 0, none⟩) (ZA.length + 1) c7)
              have hI8 := ownsRow_setCell_below hI7 (a := ⟨wx.heap.size, 1, none⟩) (show wx.heap.size < W9.heap.size by omega) (.slice (some ⟨g7, 0, none⟩) (ZA.length + 1) c7)
              have hX8 : OwnL (w7.setCell ⟨wx.heap.size, 1, none⟩ (.slice (some ⟨g7, 0, none⟩) (ZA.length + 1) c7)) W.heap.size n X := ownsRow_setCell_other hX7 (a := ⟨wx.heap.size, 1, none⟩) (fun h => by have h' : W.heap.size = wx.heap.size := Option.some.inj h; omega) _
              have hV8 := ownsRow_setCell_other hV7 (a := ⟨wx.heap.size, 1, none⟩) (fun h => by have := HVB.out _ h; simp at this) (.slice (some ⟨g7, 0, none⟩) (ZA.length + 1) c7)
              have hg8 := (heap_setCell_other w7 ⟨wx.heap.size, 1, none⟩ w.heap.size (.slice (some ⟨g7, 0, none⟩) (ZA.length + 1) c7) (by show w.heap.size ≠ wx.heap.size; omega)).trans hg7'
              have hr8 := (heap_setCell_other w7 ⟨wx.heap.size, 1, none⟩ (w.heap.size + 1) (.slice (some ⟨g7, 0, none⟩) (ZA.length + 1) c7) (by show w.heap.size + 1 ≠ wx.heap.size; omega)).trans hr7'
              have b8 := b7.setCell (p := ⟨wx.heap.size, 1, none⟩) (show w.heap.size ≤ wx.heap.size by omega) (.slice (some ⟨g7, 0, none⟩) (ZA.length + 1) c7)
              have hs8 : W9.heap.size ≤ (w7.setCell ⟨wx.heap.size, 1, none⟩ (.slice (some ⟨g7, 0, none⟩) (ZA.length + 1) c7)).heap.size := by simp at hsz7 ⊢; omega
              clear hI7 hV7 hg7' hr7' hsz7 b7 hown7 hgrow7 hnil7 hgo7 hva7 hX7 hXa t0 t1 tf0 tf1 t2 t3 t4 t5 t6 m0 m1 y0 y1 yf0 yf1 z0 z1 z2 HOA HNW HGO HXX HVA hHeld hHeld2 hHeld3 hgo5 hva5 hoA5 hoI5 hoX5 hoV5 hg5 hr5 b5 s5
              generalize w7.setCell ⟨wx.heap.size, 1, none⟩ (.slice (some ⟨g7, 0, none⟩) (ZA.length + 1) c7) = W8 at *
              have HNK := Lib.hid (one_news W8 (k : Int))
              go_wp2_with (at_builtin; refine wpList_append_own _ rfl (.tmp 81) (.tmp 83) 25 rfl W9.heap.size 3 i0 (.int .i64 0) 1 8 Try.underlying25 hi0 hz0 hz1 hz2 rfl (by decide) u9 (hits p k).length (cellsI (hits p k)) rfl (hI8.alloc _) ⟨W8.heap.size, 0, none⟩ 1 1 [.int .i64 (k : Int)] rfl rfl HNK.out (one_i64 _) (by unfold maxLen; omega) (by omega) (by simp; omega) ?_; intro v9 w9 hown9 hgrow9 hnil9)
              have s19 := lt_of_block h19
              have hz9 := hgrow9.size
              refine ⟨⟨k + 1, .slice (some ⟨g7, 0, none⟩) (ZA.length + 1) c7, by omega, by go_num, ?_, ?_, ?_, ?_, ?_, ?_, ?_, ?_, ?_⟩, by simp [intOf]; omega⟩
              · exact (hgrow9.block wx.heap.size (by simp; omega) (fun h => by have := (hI8.lt _ h.symm).1; omega)).trans ((Below.heap_alloc W8 _ _ s19).trans h19)
              · have h2 := World.ownsRow.kept (hA8.alloc _) hgrow9 (own_ne hA8 hI8 (by decide))
                rw [HA1.out, List.length_append, cellsA_append]
                exact h2
              · rw [← HT1.out, List.length_append, ← cellsI_snoc]
                exact hown9
              · exact World.ownsRow.kept (World.ownsRow.alloc hX8 _) hgrow9 (own_far hX8 hI8 (fun g hg => by have hg' : W.heap.size = g := (Option.some.inj hg); omega))
              · exact World.ownsRow.kept (hV8.alloc _) hgrow9 (own_far hV8 hI8 (fun g hg => by have := HVB.out g hg; omega))
              · exact (hgrow9.block w.heap.size (by simp; omega) (fun h => by have := (hI8.lt _ h.symm).1; omega)).trans ((Below.heap_alloc W8 _ _ (lt_of_block hg8)).trans hg8)
              · exact (hgrow9.block (w.heap.size + 1) (by simp; omega) (fun h => by have := (hI8.lt _ h.symm).1; omega)).trans ((Below.heap_alloc W8 _ _ (lt_of_block hr8)).trans hr8)
              · exact (b8.alloc b8.size _).grown hgrow9 (by have := b8.size; simp; omega) (by intro k hk; have := (hI8.lt k hk).1; omega)
              · simp at hz9; omega
            · have hqt' : q.getD t false = false := by simpa using hqt
              have HT1 : Hid (hits p (k + 1) = hits p k) := hits_f (by rw [HPK.out, HB.out, hqt']; simp)
              have HA1 : Hid (indA (mk q) (l.take (k + 1)) = indA (mk q) (l.take k)) := by show _ = _; rw [HSA.out, HB.out, hqt']; simp
              rw [hqf] at kf
              rw [hqt'] at kt
              clear hqf hqt hqt' HB HPK HSA
              go_wp2_with fail
              exact ⟨⟨k + 1, vA, by omega, by go_num, hgo5, by rw [HA1.out]; exact hoA5, by rw [HT1.out]; exact hoI5, hoX5, hoV5, hg5, hr5, b5, s5⟩, by simp [intOf]; omega⟩
          · have hqf' : q.getD f false = false := by simpa using hqf
            have HT1 : Hid (hits p (k + 1) = hits p k) := hits_f (by rw [HPK.out, HB.out, hqf']; simp)
            have HA1 : Hid (indA (mk q) (l.take (k + 1)) = indA (mk q) (l.take k)) := by show _ = _; rw [HSA.out, HB.out, hqf']; simp
            rw [hqf'] at kf
            clear hqf hqf' HB HPK HSA
            go_wp2_with fail
            exact ⟨⟨k + 1, vA, by omega, by go_num, hgo5, by rw [HA1.out]; exact hoA5, by rw [HT1.out]; exact hoI5, hoX5, hoV5, hg5, hr5, b5, s5⟩, by simp [intOf]; omega⟩
        · have ekl : k = l.length := by omega
          rw [ekl] at hoI
          rw [List.take_of_length_le (by omega)] at hoA
          obtain ⟨aA, cA, hvA⟩ := own_slice hoA
          obtain ⟨aI, cI, hvI⟩ := own_slice hoI
          subst hvA hvI
          obtain ⟨⟨r0, r1⟩, rf0, rf1⟩ := two_cells hr4
          have hs1 : w.heap.size + 1 < wx.heap.size := by omega
          rw [HZ.out] at hoA hgo e1
          rw [HII.out] at hoI ⊢
          have HRA := Lib.hid (own_base (base' := w.heap.size) (ownsRow_setCell_below (ownsRow_setCell_below hoA (a := ⟨w.heap.size + 1, 0, none⟩) (show w.heap.size + 1 < W9.heap.size by omega) (.int .i64 (vs.length : Int))) (a := ⟨w.heap.size + 1, 1, none⟩) (show w.heap.size + 1 < W9.heap.size by omega) (.slice aA Z.length cA)) (by omega))
          have HRI := Lib.hid (own_base (base' := w.heap.size) (ownsRow_setCell_below (ownsRow_setCell_below hoI (a := ⟨w.heap.size + 1, 0, none⟩) (show w.heap.size + 1 < W9.heap.size by omega) (.int .i64 (vs.length : Int))) (a := ⟨w.heap.size + 1, 1, none⟩) (show w.heap.size + 1 < W9.heap.size by omega) (.slice aA Z.length cA)) (by omega))
          have HRV := Lib.hid (own_base (base' := w.heap.size) (ownsRow_setCell_below (ownsRow_setCell_below hoV (a := ⟨w.heap.size + 1, 0, none⟩) (show w.heap.size + 1 < w1.heap.size by omega) (.int .i64 (vs.length : Int))) (a := ⟨w.heap.size + 1, 1, none⟩) (show w.heap.size + 1 < w1.heap.size by omega) (.slice aA Z.length cA)) (by omega))
          clear ekl hoI hoA hoV hoX
          go_wp2_with fail
          exact bodyPost_ret (v := .tuple #[.agg #[.int .i64 (vs.length : Int), .slice aA Z.length cA], .slice av vs.length cv, .slice aI is.length cI]) (by simp [results, Try.results54, go_sem, r0, r1]) rfl ⟨aA, cA, av, cv, aI, cI, rfl, HRA.out, HRV.out, HRI.out, (b4.setCell (by show _ ≤ w.heap.size + 1; omega) _).setCell (by show _ ≤ w.heap.size + 1; omega) _⟩
end Go.Proofs.Ytchfccbneedejaa.T3
