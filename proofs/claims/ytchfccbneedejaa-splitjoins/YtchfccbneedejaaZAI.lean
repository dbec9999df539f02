/-
  Contract of the reference's Tidy. Plain mathematics of the graph of some vertices: no program in it. Contract of graph.part: the graph of the vertices that are kept. Contract of graph.Induced. Leaders, and what labels tell. Lists of booleans.
-/
import Derived.Test.YtchfccbneedejaaZBC
import Derived.Deep.RegionHeld3
import Derived.Test.YtchfccbneedejaaZAH
import Derived.BigRegion
namespace Go.Proofs.Ytchfccbneedejaa.T3
open Go.RowKit
theorem getD_snoc_lt {xs : List Int} {x : Int} {j : Nat} (h : j < xs.length) : (xs ++ [x]).getD j 0 = xs.getD j 0 := by simp [List.getD, List.getElem?_append_left h]
theorem getD_snoc_eq (xs : List Int) (x : Int) : (xs ++ [x]).getD xs.length 0 = x := by simp [List.getD]
theorem hits_idx {q : Nat → Bool} {n j : Nat} (h : j < (hits q n).length) : ∃ i : Nat, i < n ∧ q i = true ∧ (hits q n).getD j 0 = (i : Int) ∧ (hits q i).length = j := by
  induction n with
  | zero => simp [hits] at h
  | succ n ih =>
    by_cases hq : q n = true
    · rw [hits_t hq] at h ⊢
      by_cases hj : j < (hits q n).length
      · obtain ⟨i, h1, h2, h3, h4⟩ := ih hj
        exact ⟨i, by omega, h2, by rw [getD_snoc_lt hj, h3], h4⟩
      · rw [List.length_append, List.length_singleton] at h
        have e : j = (hits q n).length := by omega
        exact ⟨n, by omega, hq, by rw [e, getD_snoc_eq], e.symm⟩
    · have hq' : q n = false := by simpa using hq
      rw [hits_f hq'] at h ⊢
      obtain ⟨i, h1, h2, h3, h4⟩ := ih h
      exact ⟨i, by omega, h2, h3, h4⟩
theorem hits_rank {q : Nat → Bool} {n v : Nat} (hv : v < n) (hq : q v = true) : (hits q v).length < (hits q n).length ∧ (hits q n).getD (hits q v).length 0 = (v : Int) := by
  induction n with
  | zero => omega
  | succ n ih =>
    by_cases e : v = n
    · subst e
      rw [hits_t hq]
      exact ⟨by simp, getD_snoc_eq _ _⟩
    · obtain ⟨h1, h2⟩ := ih (by omega)
      by_cases hn : q n = true
      · rw [hits_t hn]
        exact ⟨by simp; omega, by rw [getD_snoc_lt h1, h2]⟩
      · have hn' : q n = false := by simpa using hn
        rw [hits_f hn']
        exact ⟨h1, h2⟩
theorem hits_inj {q : Nat → Bool} {n u v : Nat} (hu : u < n) (hv : v < n) (hqu : q u = true) (hqv : q v = true) (e : (hits q u).length = (hits q v).length) : u = v := by
  have h1 := (hits_rank hu hqu).2
  have h2 := (hits_rank hv hqv).2
  rw [e, h2] at h1
  omega
theorem filter_hits (p : A → Bool) (l : List A) : ∀ k, k ≤ l.length → ((l.take k).filter p).length = (hits (fun i => p (l.getD i A.zero)) k).length ∧ ∀ n, n < (hits (fun i => p (l.getD i A.zero)) k).length → ((l.take k).filter p).getD n A.zero = l.getD ((hits (fun i => p (l.getD i A.zero)) k).getD n 0).toNat A.zero := by
  intro k
  induction k with
  | zero => intro _; exact ⟨by simp [hits], fun n hn => by simp [hits] at hn⟩
  | succ k ih =>
    intro hk
    obtain ⟨h1, h2⟩ := ih (by omega)
    have e : l.getD k A.zero = l[k] := by simp [List.getD, List.getElem?_eq_getElem (show k < l.length by omega)]
    rw [List.take_succ_eq_append_getElem (show k < l.length by omega), List.filter_append]
    by_cases hp : p (l.getD k A.zero) = true
    · rw [hits_t (q := fun i => p (l.getD i A.zero)) hp]
      rw [e] at hp
      rw [show List.filter p [l[k]] = [l[k]] by simp [hp]]
      refine ⟨by simp [h1], fun n hn => ?_⟩
      by_cases hn2 : n < (hits (fun i => p (l.getD i A.zero)) k).length
      · rw [getD_snoc_lt hn2, ← h2 n hn2]
        simp [List.getD, List.getElem?_append_left (show n < (List.filter p (List.take k l)).length by rw [h1]; exact hn2)]
      · rw [List.length_append, List.length_singleton] at hn
        have en : n = (hits (fun i => p (l.getD i A.zero)) k).length := by omega
        rw [en, getD_snoc_eq, Int.toNat_natCast, e, ← h1]
        simp [List.getD]
    · have hp' : p (l.getD k A.zero) = false := by simpa using hp
      rw [hits_f (q := fun i => p (l.getD i A.zero)) hp']
      rw [e] at hp'
      rw [show List.filter p [l[k]] = [] by simp [hp'], List.append_nil]
      exact ⟨h1, h2⟩
/-- An arc, its ends numbered anew. -/
def ren (q : Nat → Bool) (x : A) : A := ⟨((hits q x.f.toNat).length : Nat), ((hits q x.t.toNat).length : Nat), x.w⟩
/-- The arcs of the graph of some vertices. -/
def indA (q : Nat → Bool) (l : List A) : List A := (l.filter (both q)).map (ren q)
/-- Their ids. -/
def indI (q : Nat → Bool) (l : List A) : List Int := hits (fun k => both q (l.getD k A.zero)) l.length
theorem indA_len (q : Nat → Bool) (l : List A) : (indA q l).length = (indI q l).length := by
  have := (filter_hits (both q) l l.length (Nat.le_refl _)).1
  rw [List.take_length] at this
  unfold indA indI
  rw [List.length_map, this]
theorem indA_getD (q : Nat → Bool) (l : List A) (n : Nat) (h : n < (indI q l).length) : (indA q l).getD n A.zero = ren q (l.getD ((indI q l).getD n 0).toNat A.zero) := by
  have h0 := filter_hits (both q) l l.length (Nat.le_refl _)
  rw [List.take_length] at h0
  have h1 := h0.2 n h
  have hl : n < (l.filter (both q)).length := by rw [h0.1]; exact h
  unfold indA indI
  rw [← h1]
  simp [List.getD, List.getElem?_eq_getElem hl]
theorem indA_ext {q : Nat → Bool} {l Y : List A} (hy : Y.length = (indI q l).length) (h : ∀ n, n < (indI q l).length → Y.getD n A.zero = ren q (l.getD ((indI q l).getD n 0).toNat A.zero)) : Y = indA q l := by
  apply List.ext_getElem (by rw [indA_len]; exact hy)
  intro j h1 h2
  have e1 : Y.getD j A.zero = Y[j] := by simp [List.getD, List.getElem?_eq_getElem h1]
  have e2 : (indA q l).getD j A.zero = (indA q l)[j] := by simp [List.getD, List.getElem?_eq_getElem h2]
  rw [← e1, ← e2, indA_getD q l j (by omega), h j (by omega)]
theorem made3 (n : Nat) : (madeCells #[.int .i64 0, .int .i64 0, .int .u32 0] (n * 3)).toList = cellsA (List.replicate n A.zero) := by
  apply List.ext_getElem?
  intro i
  by_cases h : i < n * 3
  · have hj : i / 3 < (List.replicate n A.zero).length := by rw [List.length_replicate]; omega
    obtain ⟨h0, h1, h2⟩ := cellsA_at _ _ hj
    have e : (List.replicate n A.zero).getD (i / 3) A.zero = A.zero := by
      rw [List.length_replicate] at hj
      simp [List.getD, hj]
    rw [e] at h0 h1 h2
    have hm : (madeCells #[.int .i64 0, .int .i64 0, .int .u32 0] (n * 3)).toList[i]? = some (#[Value.int .i64 0, .int .i64 0, .int .u32 0][i % 3]!) := by
      simp [madeCells, h]
    rw [hm]
    have hi : i = i / 3 * 3 + i % 3 := by omega
    rcases (show i % 3 = 0 ∨ i % 3 = 1 ∨ i % 3 = 2 by omega) with e | e | e
    · rw [e] at hi ⊢
      rw [Nat.add_zero] at hi
      rw [hi, h0]; rfl
    · rw [e] at hi ⊢
      rw [hi, h1]; rfl
    · rw [e] at hi ⊢
      rw [hi, h2]; rfl
  · rw [List.getElem?_eq_none (by rw [Array.length_toList, size_madeCells]; omega), List.getElem?_eq_none (by rw [cellsA_len, List.length_replicate]; omega)]
end Go.Proofs.Ytchfccbneedejaa.T3
namespace Go.Proofs.Ytchfccbneedejaa.T3
open Go.RowKit
theorem Ints.upto {w w' : World} {B : Nat} {a : Option Addr} {xs : List Int} (h : Ints w a xs) (hb : Below B w w') (hB : w.heap.size ≤ B) : Ints w' a xs := h.on (hb.mono hB)
theorem OwnA.put {w : World} {B g c : Nat} {l : List A} (h : OwnA w B (.some ⟨g, 0, none⟩) c l) (j : Nat) (x : A) (hj : j < l.length) : OwnA (((w.setCell ⟨g, j * 3, none⟩ (.int .i64 x.f)).setCell ⟨g, j * 3 + 1, none⟩ (.int .i64 x.t)).setCell ⟨g, j * 3 + 2, none⟩ (.int .u32 x.w)) B (.some ⟨g, 0, none⟩) c (l.set j x) := by
  have h1 := (h.set0 j x.f hj).set1 j x.t (by rw [List.length_set]; exact hj)
  rw [getDA_set _ _ _ _ hj, if_pos rfl, List.set_set] at h1
  have h2 := h1.set2 j x.w (by rw [List.length_set]; exact hj)
  rw [getDA_set _ _ _ _ hj, if_pos rfl, List.set_set] at h2
  exact h2
set_option maxRecDepth 100000 in
set_option maxHeartbeats 3200000 in
theorem part_any (n : Nat) (q : Nat → Bool) (a : Option Addr) (l : List A) (cap : Nat) (av : Option Addr) (cv : Nat) (ai : Option Addr) (ci : Nat) (w : World) (hn : n ≤ 1024) (hl : l.length ≤ 8192)
    (hall : ∀ x ∈ l, (0 ≤ x.f ∧ x.f < n) ∧ (0 ≤ x.t ∧ x.t < n)) (hr : Arcs w a l) (hv : Ints w av (hits q n)) (hi : Ints w ai (indI q l)) :
    Calls Try.prog 73 #[.agg #[.int .i64 n, .slice a l.length cap], .slice av (hits q n).length cv, .slice ai (indI q l).length ci] w fun e w' =>
      ∃ a' c', e = .returned (.agg #[.int .i64 ((hits q n).length : Nat), .slice a' (indA q l).length c']) ∧ OwnA w' w.heap.size a' c' (indA q l) ∧ a' ≠ none ∧ Below w.heap.size w w' := by
  obtain ⟨i0, hi0, hz0, hz1, hz2⟩ := info_parts info3
  obtain ⟨i5, hi5, hy0, hy1, hy2⟩ := info_parts info53
  have hb0 : Below w.heap.size w ((w.alloc (.cells #[.int .i64 n, .slice a l.length cap] 24)).alloc (.cells #[.int .i64 0, .slice none 0 0] 24)) := ((Below.refl _ _).alloc (Nat.le_refl _) _).alloc (by simp) _
  have hg : ((w.alloc (.cells #[.int .i64 n, .slice a l.length cap] 24)).alloc (.cells #[.int .i64 0, .slice none 0 0] 24)).heap[w.heap.size]? = some (.cells #[.int .i64 n, .slice a l.length cap] 24) := (Below.heap_alloc _ _ _ (by simp)).trans (heap_top w _)
  have h1 := heap_top (w.alloc (.cells #[.int .i64 n, .slice a l.length cap] 24)) (.cells #[.int .i64 0, .slice none 0 0] 24)
  rw [show (w.alloc (.cells #[.int .i64 n, .slice a l.length cap] 24)).heap.size = w.heap.size + 1 by simp] at h1
  generalize hW : (w.alloc (.cells #[.int .i64 n, .slice a l.length cap] 24)).alloc (.cells #[.int .i64 0, .slice none 0 0] 24) = W at *
  obtain ⟨⟨g0, g1⟩, gf0, gf1⟩ := two_cells hg
  have hvl : (hits q n).length ≤ n := hits_len _ _
  have hil : (indI q l).length ≤ l.length := hits_len _ _
  have HIDX := Lib.hid (fun j (h : j < (hits q n).length) => hits_idx (q := q) (n := n) h)
  have HINJ := Lib.hid (fun u v (hu : u < n) (hv : v < n) (e1 : q u = true) (e2 : q v = true) => hits_inj (q := q) (n := n) hu hv e1 e2)
  have HRK := Lib.hid (fun v (h1 : v < n) (h2 : q v = true) => (hits_rank (q := q) h1 h2).1)
  have HMI : Hid (∀ j, j < (indI q l).length → ∃ i : Nat, i < l.length ∧ (indI q l).getD j 0 = (i : Int) ∧ q (l.getD i A.zero).f.toNat = true ∧ q (l.getD i A.zero).t.toNat = true) := by
    show ∀ j, _
    intro j hj
    obtain ⟨i, h1, h2, h3, _⟩ := hits_idx (q := fun k => both q (l.getD k A.zero)) hj
    have h4 : q (l.getD i A.zero).f.toNat = true ∧ q (l.getD i A.zero).t.toNat = true := by simpa [both] using h2
    exact ⟨i, h1, h3, h4.1, h4.2⟩
  have HEXT : Hid (∀ Y : List A, Y.length = (indI q l).length → (∀ n, n < (indI q l).length → Y.getD n A.zero = ren q (l.getD ((indI q l).getD n 0).toNat A.zero)) → Y = indA q l) := fun Y h1 h2 => indA_ext h1 h2
  have HIL := Lib.hid (indA_len q l)
  have HALL := Lib.hid hall
  clear hall
  obtain ⟨Z, HZ⟩ := named (indA q l)
  rw [HZ.out] at HEXT HIL ⊢
  generalize hits q n = vs at *
  generalize indI q l = is at *
  obtain ⟨bv, ov, habv⟩ := hv.get
  obtain ⟨bi, oi, habi⟩ := hi.get
  obtain ⟨b, o, hab⟩ := hr.b.get
  have s0 := lt_of_block hg
  have s0' := lt_of_block h1
  go_enter Try.func73, Try.ntmps73
  go_wp2_with (at_make; refine wpList_make_full _ rfl (.tmp 15) (.tmp 15) 25 rfl W.heap.size 3 i0 (.int .i64 0) 1 Try.underlying25 hi0 hz0 hz1 .i64 .i64 n n n rfl rfl rfl rfl (by rw [hz2]; omega) (by unfold maxLen; omega) (Nat.le_refl _) ?_; intro w1 hown1 hgrow1)
  clear hW
  have hown0 : OwnL w1 W.heap.size n (List.replicate n 0) := by
    have e : (madeCells (Value.int .i64 0).cells (n * 1)).toList = cellsI (ints (List.replicate n 0)) := by
      show (madeCells #[Value.int .i64 0] (n * 1)).toList = _
      rw [toList_madeCells_one, Nat.mul_one]
      unfold cellsI ints
      simp
    rw [e] at hown1
    exact hown1
  have hb1 : Below W.heap.size W w1 := (Below.refl _ _).grown hgrow1 (Nat.le_refl _) (by intro k hk; cases hk)
  clear hown1 hgrow1
  go_loopw [19] (fun i wr => ∃ (k : Nat) (X : List Nat), k ≤ vs.length ∧ i = .int .i64 (k : Int) ∧ Hid (X.length = n) ∧ Hid (∀ v, v < n → q v = true → (hits q v).length < k → X.getD v 0 = (hits q v).length) ∧ OwnL wr W.heap.size n X ∧ Below W.heap.size W wr) (fun i _ => vs.length - (intOf i).toNat)
  case atStart => exact ⟨0, List.replicate n 0, Nat.zero_le _, rfl, by show _ = _; simp, by intro v _ _ h; omega, hown0, hb1⟩
  case round =>
    obtain ⟨k, X, hk, rfl, HX, HJ, hown, hbel⟩ := hrel
    by_cases hlt : k < vs.length
    · obtain ⟨i, hin, hqi, e1, e2⟩ := HIDX.out k hlt
      obtain ⟨rfl, hbv, hcv⟩ := habv (by omega)
      have cv := (hbel.cell (p := ⟨bv, ov + k, none⟩) (by have := hb0.size; exact Nat.lt_of_lt_of_le hbv this)).trans ((hb0.cell (p := ⟨bv, ov + k, none⟩) hbv).trans (hcv k hlt))
      rw [e1] at cv
      have cx := hown.cell HX.out i hin
      have fx := hown.free i
      have hst := hown.set i k
      have HN : Hid (∀ v, v < n → q v = true → (hits q v).length < k + 1 → (X.set i k).getD v 0 = (hits q v).length) := by
        show ∀ v, _
        intro v hv hqv hk'
        rw [getD_set _ _ _ _ (by rw [HX.out]; exact hin)]
        split
        · rename_i e; rw [e, e2]
        · rename_i e
          refine HJ.out v hv hqv ?_
          rcases Nat.lt_or_ge (hits q v).length k with h | h
          · exact h
          · exact absurd (HINJ.out v i hv hin hqv hqi (by omega)) e
      clear e1 e2 hcv
      generalize X.getD i 0 = x0 at *
      go_wp2_with fail
      exact ⟨⟨k + 1, _, by omega, by go_num, by show _ = _; rw [List.length_set]; exact HX.out, HN, hst, hbel.setCell (Nat.le_refl _) _⟩, by simp [intOf]; omega⟩
    · have HNUM : Hid (∀ v, v < n → q v = true → X.getD v 0 = (hits q v).length) := by
        show ∀ v, _
        intro v hv hqv
        exact HJ.out v hv hqv (by have := HRK.out v hv hqv; omega)
      obtain ⟨wx, hwx⟩ : ∃ x, x = wr := ⟨wr, rfl⟩
      subst hwx
      have s1 := hbel.size
      have hgr := (hbel.block _ s0).trans hg
      have hhr := (hbel.block _ s0').trans h1
      have bw := bthen hb0 hbel (by omega)
      clear g0 g1 gf0 gf1 HJ hown0 hb1 HINJ HIDX HRK
      go_wp2_with (at_make; refine wpList_make_full _ rfl (.tmp 30) (.tmp 30) 22 rfl wx.heap.size 49 i5 _ 3 Try.underlying22 hi5 hy0 hy1 .i64 .i64 is.length is.length is.length rfl rfl rfl rfl (by rw [hy2]; omega) (by unfold maxLen; omega) (Nat.le_refl _) ?_; intro w2 hown2 hgrow2)
      have hown3 : w2.ownsRow wx.heap.size 49 3 (.slice (some ⟨wx.heap.size, 0, none⟩) is.length is.length) is.length (cellsA (List.replicate is.length A.zero)) := by
        rw [← made3]; exact hown2
      have hb2 : Below wx.heap.size wx w2 := (Below.refl _ _).grown hgrow2 (Nat.le_refl _) (by intro k hk; cases hk)
      have hx2 : OwnL w2 W.heap.size n X := World.ownsRow.kept hown hgrow2 (Or.inr (by simp [Value.ownBlock]))
      have hgx : W.heap.size < wx.heap.size := hown.lt
      have hg2 := (hb2.block _ (lt_of_block hgr)).trans hgr
      have hh2 := (hb2.block _ (lt_of_block hhr)).trans hhr
      have b2 := bthen bw hb2 (by omega)
      have s2 : wx.heap.size < w2.heap.size := (World.ownsRow.lt hown3 wx.heap.size rfl).2
      clear hown2 hgrow2 hb2 hown hgr hhr bw hbel hg h1 hb0
      go_wp2_with fail
      go_loopw [34] (fun i wr => ∃ (k : Nat) (Y : List A), k ≤ is.length ∧ i = .int .i64 (k : Int) ∧ Hid (Y.length = is.length) ∧ Hid (∀ j, j < k → Y.getD j A.zero = ren q (l.getD (is.getD j 0).toNat A.zero)) ∧ wr.ownsRow wx.heap.size 49 3 (.slice (some ⟨wx.heap.size, 0, none⟩) is.length is.length) is.length (cellsA Y) ∧ OwnL wr W.heap.size n X ∧ wr.heap[w.heap.size]? = some (.cells #[.int .i64 n, .slice a l.length cap] 24) ∧ wr.heap[w.heap.size + 1]? = some (.cells #[.int .i64 0, .slice none 0 0] 24) ∧ Below w.heap.size w wr ∧ wx.heap.size < wr.heap.size) (fun i _ => is.length - (intOf i).toNat)
      case atStart => exact ⟨0, _, Nat.zero_le _, rfl, by show _ = _; simp, by intro j hj; omega, hown3, hx2, hg2, hh2, b2, s2⟩
      case round =>
        obtain ⟨k, Y, hk, rfl, HY, HJ, hown, hx4, hg4, hq4, b4, s4⟩ := hrel
        clear hown3 hx2 hg2 hh2 b2 s2
        obtain ⟨⟨g0, g1⟩, gf0, gf1⟩ := two_cells hg4
        obtain ⟨⟨q0, q1⟩, qf0, qf1⟩ := two_cells hq4
        by_cases hlt : k < is.length
        · obtain ⟨i, hil2, e1, hqf, hqt⟩ := HMI.out k hlt
          obtain ⟨rfl, hbi, hci⟩ := habi (by omega)
          have ci := (b4.cell (p := ⟨bi, oi + k, none⟩) hbi).trans (hci k hlt)
          rw [e1] at ci
          obtain ⟨rfl, hbl, hat⟩ := hab (by omega)
          obtain ⟨c0, c1, c2⟩ := (hat i hil2).onB hbl b4
          have hxm := HALL.out (l.getD i A.zero) (by rw [show l.getD i A.zero = l[i] by simp [List.getD, List.getElem?_eq_getElem hil2]]; exact List.getElem_mem hil2)
          have HREN : Hid (ren q (l.getD (is.getD k 0).toNat A.zero) = ren q (l.getD i A.zero)) := by show _ = _; rw [e1, Int.toNat_natCast]
          clear e1 hci hat
          generalize l.getD i A.zero = x at *
          obtain ⟨xf, xt, xw⟩ := x
          obtain ⟨f, hf⟩ : ∃ f : Nat, xf = f := ⟨xf.toNat, by have := hxm.1.1; simp at this; omega⟩
          obtain ⟨t, ht⟩ : ∃ t : Nat, xt = t := ⟨xt.toNat, by have := hxm.2.1; simp at this; omega⟩
          subst hf ht
          have hfn : f < n := by have := hxm.1.2; simp at this; omega
          have htn : t < n := by have := hxm.2.2; simp at this; omega
          simp only [Int.toNat_natCast] at hqf hqt
          clear hxm
          have nf := hx4.cell HX.out f hfn
          have nt := hx4.cell HX.out t htn
          rw [HNUM.out f hfn hqf] at nf
          rw [HNUM.out t htn hqt] at nt
          have HREN2 : Hid (ren q (l.getD (is.getD k 0).toNat A.zero) = ⟨((hits q f).length : Nat), ((hits q t).length : Nat), xw⟩) := by show _ = _; rw [HREN.out]; unfold ren; simp
          clear hqf hqt HREN
          generalize (hits q f).length = nf' at *
          generalize (hits q t).length = nt' at *
          have hYl : k < Y.length := by rw [HY.out]; exact hlt
          have hown' : OwnA wr wx.heap.size (some ⟨wx.heap.size, 0, none⟩) is.length Y := by unfold OwnA; rw [HY.out]; exact hown
          have HO5 := Lib.hid (hown'.alloc (.cells #[.int .i64 f, .int .i64 t, .int .u32 xw] 49))
          have HX5 : Hid (OwnL (wr.alloc (.cells #[.int .i64 f, .int .i64 t, .int .u32 xw] 49)) W.heap.size n X) := World.ownsRow.alloc hx4 _
          go_wp2_with fail
          obtain ⟨d0, d1, d2⟩ := HO5.out.at k hYl
          have f0 := HO5.out.free (k * 3)
          have f1 := HO5.out.free (k * 3 + 1)
          have f2 := HO5.out.free (k * 3 + 2)
          have m0 := (((Below.refl wr.heap.size wr).alloc (Nat.le_refl _) (.cells #[.int .i64 f, .int .i64 t, .int .u32 xw] 49)).cell (p := ⟨W.heap.size, f, none⟩) (by show W.heap.size < wr.heap.size; omega)).trans nf
          have m1 := (((Below.refl wr.heap.size wr).alloc (Nat.le_refl _) (.cells #[.int .i64 f, .int .i64 t, .int .u32 xw] 49)).cell (p := ⟨W.heap.size, t, none⟩) (by show W.heap.size < wr.heap.size; omega)).trans nt
          obtain ⟨z0, z1, z2⟩ := three_cells (heap_top wr (.cells #[.int .i64 f, .int .i64 t, .int .u32 xw] 49))
          have H6 := Lib.hid ((Below.heap_alloc wr (.cells #[.int .i64 f, .int .i64 t, .int .u32 xw] 49) _ (lt_of_block hg4)).trans hg4)
          have H7 := Lib.hid ((Below.heap_alloc wr (.cells #[.int .i64 f, .int .i64 t, .int .u32 xw] 49) _ (lt_of_block hq4)).trans hq4)
          have b5 := b4.alloc b4.size (.cells #[.int .i64 f, .int .i64 t, .int .u32 xw] 49)
          have s5 : wx.heap.size < (wr.alloc (.cells #[.int .i64 f, .int .i64 t, .int .u32 xw] 49)).heap.size := by simp; omega
          generalize hW5 : wr.alloc (.cells #[.int .i64 f, .int .i64 t, .int .u32 xw] 49) = W5 at *
          generalize Y.getD k A.zero = y at *
          clear hW5 c0 c1 c2 g0 g1 gf0 gf1 q0 q1 qf0 qf1 hown' hown hg4 hq4 b4 hx4 nf nt ci
          go_region
          go_wp2_with fail
          have h9 := HO5.out.put k ⟨nf', nt', xw⟩ hYl
          have e9 : (Y.set k ⟨nf', nt', xw⟩).length = is.length := by rw [List.length_set]; exact HY.out
          refine ⟨⟨k + 1, Y.set k ⟨nf', nt', xw⟩, by omega, by go_num, e9, ?_, ?_, ?_, ?_, ?_, ?_, ?_⟩, by simp [intOf]; omega⟩
          · show ∀ j, _
            intro j hj
            rw [getDA_set _ _ _ _ hYl]
            by_cases e : j = k
            · subst e
              rw [if_pos rfl, HREN2.out]
            · rw [if_neg e, HJ.out j (by omega)]
          · unfold OwnA at h9
            rw [e9] at h9
            exact h9
          · exact ownsRow_setCell_other (ownsRow_setCell_other (ownsRow_setCell_other HX5.out (by simp [Value.ownBlock]; omega) _) (by simp [Value.ownBlock]; omega) _) (by simp [Value.ownBlock]; omega) _
          · exact (Below.heap_setCell _ _ _ _ (by show w.heap.size ≠ wx.heap.size; omega)).trans ((Below.heap_setCell _ _ _ _ (by show w.heap.size ≠ wx.heap.size; omega)).trans ((Below.heap_setCell _ _ _ _ (by show w.heap.size ≠ wx.heap.size; omega)).trans H6.out))
          · exact (Below.heap_setCell _ _ _ _ (by show w.heap.size + 1 ≠ wx.heap.size; omega)).trans ((Below.heap_setCell _ _ _ _ (by show w.heap.size + 1 ≠ wx.heap.size; omega)).trans ((Below.heap_setCell _ _ _ _ (by show w.heap.size + 1 ≠ wx.heap.size; omega)).trans H7.out))
          · exact (((b5.setCell (by show _ ≤ wx.heap.size; omega) _).setCell (by show _ ≤ wx.heap.size; omega) _).setCell (by show _ ≤ wx.heap.size; omega) _).drew
          · have := (((Below.refl 0 W5).setCell (p := ⟨wx.heap.size, k * 3, none⟩) (Nat.zero_le _) (.int .i64 nf')).setCell (p := ⟨wx.heap.size, k * 3 + 1, none⟩) (Nat.zero_le _) (.int .i64 nt')).setCell (p := ⟨wx.heap.size, k * 3 + 2, none⟩) (Nat.zero_le _) (.int .u32 xw)
            exact Nat.lt_of_lt_of_le s5 this.size
        · have hY : Y = Z := HEXT.out Y HY.out (fun j hj => HJ.out j (by omega))
          rw [hY] at hown
          have HOWN := Lib.hid hown
          clear hY hown
          go_wp2_with fail
          refine bodyPost_ret (v := .agg #[.int .i64 (vs.length : Int), .slice (some ⟨wx.heap.size, 0, none⟩) is.length is.length]) (by simp [results, Try.results73, go_sem, q0, q1]) rfl ⟨some ⟨wx.heap.size, 0, none⟩, is.length, by rw [HIL.out], ?_, (by simp), (b4.setCell (by show _ ≤ w.heap.size + 1; omega) _).setCell (by show _ ≤ w.heap.size + 1; omega) _⟩
          unfold OwnA
          rw [HIL.out]
          exact own_base (ownsRow_setCell_below (ownsRow_setCell_below HOWN.out (by show w.heap.size + 1 < _; omega) _) (by show w.heap.size + 1 < _; omega) _) (by omega)
end Go.Proofs.Ytchfccbneedejaa.T3
namespace Go.Proofs.Ytchfccbneedejaa.T3
open Go.RowKit
theorem own_keep {w w' : World} {base : Nat} {e : TypeId} {size : Nat} {v : Value} {n : Nat} {xs : List Value} (h : w.ownsRow base e size v n xs) (hk : ∀ k, base ≤ k → k < w.heap.size → v.ownBlock = some k → w'.heap[k]? = w.heap[k]?) : w'.ownsRow base e size v n xs := by
  refine ⟨h.1, ?_⟩
  rcases h.2 with h' | ⟨g, c, cur, h1, h2, h3, h4⟩
  · exact Or.inl h'
  · refine Or.inr ⟨g, c, cur, h1, h2, ?_, h4⟩
    rw [hk g h2 (lt_of_block h3) (by rw [h1]; rfl)]
    exact h3
/-- A list of numbers that a call made. -/
def OwnI (w : World) (B : Nat) (a : Option Addr) (c : Nat) (xs : List Int) : Prop := w.ownsRow B 3 1 (.slice a xs.length c) xs.length (cellsI xs)
/-- What Induced tells. -/
def indE (N : Int) (l : List A) (q : List Bool) : Int := if chkE N l = 0 then (if (q.length : Int) = N then (if hits (mk q) q.length = [] then 5 else 0) else 4) else chkE N l
set_option maxRecDepth 100000 in
set_option maxHeartbeats 1600000 in
theorem induced_no (N : Int) (a : Option Addr) (l : List A) (cap : Nat) (a' : Option Addr) (q : List Bool) (cap' : Nat) (w : World) (hl : l.length ≤ 9223372036854775807) (hr : Arcs w a l) (hr' : Bools (· < w.heap.size) w a' q) (hE : indE N l q ≠ 0) :
    Calls Try.prog 51 #[.agg #[.int .i64 N, .slice a l.length cap], .slice a' q.length cap'] w fun e w' => e = .returned (.tuple #[.agg #[.int .i64 0, .slice none 0 0], .slice none 0 0, .slice none 0 0, .int .i64 (indE N l q)]) ∧ Below w.heap.size w w' := by
  have hb0 : Below w.heap.size w ((w.alloc (.cells #[.int .i64 N, .slice a l.length cap] 24)).alloc (.cells #[.int .i64 0, .slice none 0 0] 24)) := ((Below.refl _ _).alloc (Nat.le_refl _) _).alloc (by simp) _
  have hg : ((w.alloc (.cells #[.int .i64 N, .slice a l.length cap] 24)).alloc (.cells #[.int .i64 0, .slice none 0 0] 24)).heap[w.heap.size]? = some (.cells #[.int .i64 N, .slice a l.length cap] 24) := (Below.heap_alloc _ _ _ (by simp)).trans (heap_top w _)
  have h1 := heap_top (w.alloc (.cells #[.int .i64 N, .slice a l.length cap] 24)) (.cells #[.int .i64 0, .slice none 0 0] 24)
  rw [show (w.alloc (.cells #[.int .i64 N, .slice a l.length cap] 24)).heap.size = w.heap.size + 1 by simp] at h1
  generalize hW : (w.alloc (.cells #[.int .i64 N, .slice a l.length cap] 24)).alloc (.cells #[.int .i64 0, .slice none 0 0] 24) = W at *
  obtain ⟨⟨g0, g1⟩, gf0, gf1⟩ := two_cells hg
  obtain ⟨T, HT⟩ := named (chkAt N l)
  have hr0 := hr.on hb0
  unfold indE at hE ⊢
  by_cases hC : chkE N l = 0
  · rw [if_pos hC] at hE ⊢
    have HC := Lib.hid hC
    obtain ⟨hN1, hN2, hlen, hall⟩ := chk_zero hC
    clear hC hall
    by_cases hQ : (q.length : Int) = N
    · rw [if_pos hQ] at hE ⊢
      by_cases hH : hits (mk q) q.length = []
      · rw [if_pos hH]
        have HH := Lib.hid hH
        clear hE hH
        go_enter Try.func51, Try.ntmps51
        go_wp2_with fail
        refine (check_any N a l cap _ hl hr0).mono ?_
        rintro e w1 ⟨rfl, hb1⟩
        rw [HC.out, HT.out]
        have hg1 := (hb1.block _ (lt_of_block hg)).trans hg
        have hh1 := (hb1.block _ (lt_of_block h1)).trans h1
        have b1 := bthen hb0 hb1 (by have := hb0.size; omega)
        have s1 := lt_of_block hh1
        clear hb1 hb0 hr0 hg h1 g0 g1 gf0 gf1 hW
        obtain ⟨⟨g0, g1⟩, gf0, gf1⟩ := two_cells hg1
        have hb2 : Below w1.heap.size w1 ((w1.alloc (.cells #[.slice none 0 0] 92)).alloc (.cells #[.slice none 0 0] 92)) := ((Below.refl _ _).alloc (Nat.le_refl _) _).alloc (by simp) _
        have hm2 : ((w1.alloc (.cells #[.slice none 0 0] 92)).alloc (.cells #[.slice none 0 0] 92)).heap[w1.heap.size]? = some (.cells #[.slice none 0 0] 92 (0, 0)) := (Below.heap_alloc _ _ _ (by simp)).trans (heap_top w1 _)
        have z2 : ((w1.alloc (.cells #[.slice none 0 0] 92)).alloc (.cells #[.slice none 0 0] 92)).heap.size = w1.heap.size + 2 := by simp
        generalize hW2 : (w1.alloc (.cells #[.slice none 0 0] 92)).alloc (.cells #[.slice none 0 0] 92) = W2 at *
        have hfil : FilB W2 w1.heap.size W2.heap.size [] := ⟨_, hm2, World.ownsRow_nil _ _ _ _⟩
        have hq2 : Bools (Safe w1.heap.size W2.heap.size W2) W2 a' q := hr'.imp (fun b h => Or.inl ⟨by omega, by omega⟩) (fun b h => (hb2.block b (by omega)).trans (b1.block b h))
        have hh2 := (hb2.block _ s1).trans hh1
        have b2 := bthen b1 hb2 (by omega)
        go_wp2_with (go_at_call 70; refine (marked_any w1.heap.size W2.heap.size a' q cap' W2 (by omega) (by omega) (Nat.le_refl _) hq2 hfil).mono ?_; rintro e w3 ⟨rfl, hf3, hk3⟩; rw [HH.out] at hf3; obtain ⟨v3, hm3, hown3⟩ := hf3; obtain ⟨a3, c3, hv3⟩ := own_slice hown3; rw [hv3] at hm3; have c3' := cell_of_one hm3; obtain ⟨⟨r0, r1⟩, rf0, rf1⟩ := two_cells ((hk3.block _ (show w.heap.size + 1 < W2.heap.size by omega) (by omega)).trans hh2))
        have b3 := hk3.below b2 (by omega) (by omega)
        refine bodyPost_ret (v := .tuple #[.agg #[.int .i64 0, .slice none 0 0], .slice none 0 0, .slice none 0 0, .int .i64 5]) (by simp [results, Try.results51, go_sem, r0, r1]) rfl ⟨rfl, ?_⟩
        exact (b3.setCell (by show _ ≤ w.heap.size + 1; omega) _).setCell (by show _ ≤ w.heap.size + 1; omega) _
      · rw [if_neg hH] at hE
        exact absurd rfl hE
    · rw [if_neg hQ]
      have hQ' : ((q.length : Int) == N) = false := beq_eq_false_iff_ne.2 hQ
      clear hE
      go_enter Try.func51, Try.ntmps51
      go_wp2_with fail
      refine (check_any N a l cap _ hl hr0).mono ?_
      rintro e w1 ⟨rfl, hb1⟩
      rw [HC.out, HT.out]
      have hg1 := (hb1.block _ (lt_of_block hg)).trans hg
      have hh1 := (hb1.block _ (lt_of_block h1)).trans h1
      have b1 := bthen hb0 hb1 (by have := hb0.size; omega)
      clear hb1 hb0 hr0 hg h1 g0 g1 gf0 gf1 hW
      obtain ⟨⟨g0, g1⟩, gf0, gf1⟩ := two_cells hg1
      obtain ⟨⟨r0, r1⟩, rf0, rf1⟩ := two_cells hh1
      go_wp2_with fail
      refine bodyPost_ret (v := .tuple #[.agg #[.int .i64 0, .slice none 0 0], .slice none 0 0, .slice none 0 0, .int .i64 4]) (by simp [results, Try.results51, go_sem, r0, r1]) rfl ⟨rfl, ?_⟩
      exact (b1.setCell (by show _ ≤ w.heap.size + 1; omega) _).setCell (by show _ ≤ w.heap.size + 1; omega) _
  · rw [if_neg hC]
    obtain ⟨E, HE⟩ := named (chkE N l)
    rw [HE.out] at hC ⊢
    have hE' : (E == 0) = false := beq_eq_false_iff_ne.2 hC
    clear hE
    go_enter Try.func51, Try.ntmps51
    go_wp2_with fail
    refine (check_any N a l cap _ hl hr0).mono ?_
    rintro e w1 ⟨rfl, hb1⟩
    rw [HE.out, HT.out]
    have hh1 := (hb1.block _ (lt_of_block h1)).trans h1
    have b1 := bthen hb0 hb1 (by have := hb0.size; omega)
    clear hb1 hb0 hr0 hg h1 g0 g1 gf0 gf1 hW
    obtain ⟨⟨r0, r1⟩, rf0, rf1⟩ := two_cells hh1
    go_wp2_with fail
    refine bodyPost_ret (v := .tuple #[.agg #[.int .i64 0, .slice none 0 0], .slice none 0 0, .slice none 0 0, .int .i64 E]) (by simp [results, Try.results51, go_sem, r0, r1]) rfl ⟨rfl, ?_⟩
    exact (b1.setCell (by show _ ≤ w.heap.size + 1; omega) _).setCell (by show _ ≤ w.heap.size + 1; omega) _
theorem OwnI.ints {w : World} {B : Nat} {a : Option Addr} {c : Nat} {xs : List Int} (h : OwnI w B a c xs) : Ints w a xs := ints_own h
set_option maxRecDepth 100000 in
set_option maxHeartbeats 3200000 in
theorem induced_ok (n : Nat) (a : Option Addr) (l : List A) (cap : Nat) (a' : Option Addr) (q : List Bool) (cap' : Nat) (w : World) (hC : chkE n l = 0) (hQ : q.length = n) (hH : hits (mk q) n ≠ []) (hr : Arcs w a l) (hr' : Bools (· < w.heap.size) w a' q) :
    Calls Try.prog 51 #[.agg #[.int .i64 n, .slice a l.length cap], .slice a' n cap'] w fun e w' => ∃ ah ch av cv ai ci, e = .returned (.tuple #[.agg #[.int .i64 ((hits (mk q) n).length : Nat), .slice ah (indA (mk q) l).length ch], .slice av (hits (mk q) n).length cv, .slice ai (indI (mk q) l).length ci, .int .i64 0]) ∧
      OwnA w' w.heap.size ah ch (indA (mk q) l) ∧ ah ≠ none ∧ OwnI w' w.heap.size av cv (hits (mk q) n) ∧ OwnI w' w.heap.size ai ci (indI (mk q) l) ∧ Below w.heap.size w w' := by
  have hb0 : Below w.heap.size w ((w.alloc (.cells #[.int .i64 n, .slice a l.length cap] 24)).alloc (.cells #[.int .i64 0, .slice none 0 0] 24)) := ((Below.refl _ _).alloc (Nat.le_refl _) _).alloc (by simp) _
  have hg : ((w.alloc (.cells #[.int .i64 n, .slice a l.length cap] 24)).alloc (.cells #[.int .i64 0, .slice none 0 0] 24)).heap[w.heap.size]? = some (.cells #[.int .i64 n, .slice a l.length cap] 24) := (Below.heap_alloc _ _ _ (by simp)).trans (heap_top w _)
  have h1 := heap_top (w.alloc (.cells #[.int .i64 n, .slice a l.length cap] 24)) (.cells #[.int .i64 0, .slice none 0 0] 24)
  rw [show (w.alloc (.cells #[.int .i64 n, .slice a l.length cap] 24)).heap.size = w.heap.size + 1 by simp] at h1
  generalize hW : (w.alloc (.cells #[.int .i64 n, .slice a l.length cap] 24)).alloc (.cells #[.int .i64 0, .slice none 0 0] 24) = W at *
  obtain ⟨⟨g0, g1⟩, gf0, gf1⟩ := two_cells hg
  obtain ⟨T, HT⟩ := named (chkAt n l)
  have hr0 := hr.on hb0
  have HC := Lib.hid hC
  obtain ⟨hN1, hN2, hlen, hall⟩ := chk_zero hC
  have hl : l.length ≤ 9223372036854775807 := by omega
  have HALL := Lib.hid hall
  have hn : n ≤ 1024 := by omega
  have hpos : 0 < (hits (mk q) n).length := by
    rcases Nat.eq_zero_or_pos (hits (mk q) n).length with h | h
    · exact absurd (List.eq_nil_of_length_eq_zero h) hH
    · exact h
  have hpos' : (((hits (mk q) n).length : Int) == 0) = false := beq_eq_false_iff_ne.2 (by omega)
  have HQ := Lib.hid hQ
  clear hC hall hH hQ
  have HPART := Lib.hid (fun av cv ai ci W' (h1 : Arcs W' a l) (h2 : Ints W' av (hits (mk q) n)) (h3 : Ints W' ai (indI (mk q) l)) => part_any n (mk q) a l cap av cv ai ci W' hn hlen HALL.out h1 h2 h3)
  have HMARK := Lib.hid (fun m B W' h1 h2 h3 h4 => marked_any m B a' q cap' W' (by rw [HQ.out]; omega) h1 h2 h3 h4)
  have HINS := Lib.hid (fun m B W' h1 h2 h3 h4 h5 => inside_any m B n a l cap a' q cap' W' hlen (by rw [HQ.out]; omega) (by rw [HQ.out]; exact HALL.out) h1 h2 h3 h4 h5)
  rw [HQ.out] at HMARK HINS
  obtain ⟨is, HIS⟩ : ∃ is, Hid (indI (mk q) l = is) := ⟨_, rfl⟩
  have HIS' : Hid (hits (fun k => both (mk q) (l.getD k A.zero)) l.length = is) := HIS
  rw [HIS.out] at HPART ⊢
  rw [HIS'.out] at HINS
  obtain ⟨vs, HVS⟩ : ∃ vs, Hid (hits (mk q) n = vs) := ⟨_, rfl⟩
  rw [HVS.out] at HMARK HPART hpos hpos' ⊢
  obtain ⟨Z, HZ⟩ : ∃ Z, Hid (indA (mk q) l = Z) := ⟨_, rfl⟩
  rw [HZ.out] at HPART ⊢
  go_enter Try.func51, Try.ntmps51
  go_wp2_with fail
  refine (check_any n a l cap _ hl hr0).mono ?_
  rintro e w1 ⟨rfl, hb1⟩
  rw [HC.out, HT.out]
  have hg1 := (hb1.block _ (lt_of_block hg)).trans hg
  have hh1 := (hb1.block _ (lt_of_block h1)).trans h1
  have b1 := bthen hb0 hb1 (by have := hb0.size; omega)
  have s1 := lt_of_block hh1
  clear hb1 hb0 hr0 hg h1 g0 g1 gf0 gf1 hW
  obtain ⟨⟨g0, g1⟩, gf0, gf1⟩ := two_cells hg1
  have hb2 : Below w1.heap.size w1 ((w1.alloc (.cells #[.slice none 0 0] 92)).alloc (.cells #[.slice none 0 0] 92)) := ((Below.refl _ _).alloc (Nat.le_refl _) _).alloc (by simp) _
  have hm2 : ((w1.alloc (.cells #[.slice none 0 0] 92)).alloc (.cells #[.slice none 0 0] 92)).heap[w1.heap.size]? = some (.cells #[.slice none 0 0] 92 (0, 0)) := (Below.heap_alloc _ _ _ (by simp)).trans (heap_top w1 _)
  have hp2 := heap_top (w1.alloc (.cells #[.slice none 0 0] 92)) (.cells #[.slice none 0 0] 92)
  rw [show (w1.alloc (.cells #[.slice none 0 0] 92)).heap.size = w1.heap.size + 1 by simp] at hp2
  have z2 : ((w1.alloc (.cells #[.slice none 0 0] 92)).alloc (.cells #[.slice none 0 0] 92)).heap.size = w1.heap.size + 2 := by simp
  generalize hW2 : (w1.alloc (.cells #[.slice none 0 0] 92)).alloc (.cells #[.slice none 0 0] 92) = W2 at *
  have hfil : FilB W2 w1.heap.size W2.heap.size [] := ⟨_, hm2, World.ownsRow_nil _ _ _ _⟩
  have hq2 : Bools (Safe w1.heap.size W2.heap.size W2) W2 a' q := hr'.imp (fun b h => Or.inl ⟨by omega, by omega⟩) (fun b h => (hb2.block b (by omega)).trans (b1.block b h))
  have hh2 := (hb2.block _ s1).trans hh1
  have hg2 := (hb2.block _ (lt_of_block hg1)).trans hg1
  have b2 := bthen b1 hb2 (by omega)
  have HZ2 := Lib.hid z2
  clear z2
  have z2 : w1.heap.size + 2 ≤ W2.heap.size := by rw [HZ2.out]; exact Nat.le_refl _
  go_wp2_with (go_at_call 70; refine (HMARK.out w1.heap.size W2.heap.size W2 (by omega) (Nat.le_refl _) hq2 hfil).mono ?_; rintro e w3 ⟨rfl, hf3, hk3⟩; obtain ⟨v3, hm3, hown3⟩ := hf3; obtain ⟨a3, c3, hv3⟩ := own_slice hown3; rw [hv3] at hm3 hown3; have c3' := cell_of_one hm3; have hg3 := (hk3.block _ (show w.heap.size < W2.heap.size by omega) (by omega)).trans hg2; obtain ⟨⟨e0, e1⟩, ef0, ef1⟩ := two_cells hg3; have s3 := hk3.size; clear g0 g1 gf0 gf1 hv3
    )
  have b3 := hk3.below b2 (by omega) (by omega)
  have hp3 := (hk3.block _ (show w1.heap.size + 1 < W2.heap.size by omega) (by omega)).trans hp2
  have hh3 := (hk3.block _ (show w.heap.size + 1 < W2.heap.size by omega) (by omega)).trans hh2
  have hfil3 : FilB w3 (w1.heap.size + 1) w3.heap.size [] := ⟨_, hp3, World.ownsRow_nil _ _ _ _⟩
  refine (HINS.out (w1.heap.size + 1) w3.heap.size w3 (by omega) (Nat.le_refl _) ((hr.b.on b3).up (by omega)) (hr'.imp (fun b h => by show b < _; omega) (fun b h => b3.block b h)) hfil3).mono ?_
  rintro e w4 ⟨rfl, ⟨v4, hp4, hown4⟩, hk4⟩
  obtain ⟨a4, c4, hv4⟩ := own_slice hown4
  rw [hv4] at hp4 hown4
  have hm4 := (hk4.block _ (show w1.heap.size < w3.heap.size by omega) (by omega)).trans hm3
  have hg4 := (hk4.block _ (show w.heap.size < w3.heap.size by omega) (by omega)).trans hg3
  have hh4 := (hk4.block _ (show w.heap.size + 1 < w3.heap.size by omega) (by omega)).trans hh3
  have hown4' := own_keep hown3 (fun k h1 h2 _ => hk4.block k h2 (by omega))
  have b4 := hk4.below b3 (by omega) (by omega)
  have s4 := hk4.size
  clear hk4 hk3 hfil3 hp3 hm3 hg3 hh3 hown3 c3' e0 e1 ef0 ef1 hW2 hm2 hp2 hfil hq2 hh2 hg2 hb2 b2 b3 hg1 hh1 hv4
  obtain ⟨⟨g0, g1⟩, gf0, gf1⟩ := two_cells hg4
  have k0 := cell_of_one hm4
  have k1 := cell_of_one hp4
  have HP4 := Lib.hid (HPART.out a3 c3 a4 c4 w4.drew (hr.on b4.drew) (show Ints w4.drew a3 vs from ints_own (w := w4.drew) hown4') (show Ints w4.drew a4 is from ints_own (w := w4.drew) hown4))
  have HM4 := Lib.hid hm4
  have HPP := Lib.hid hp4
  have HH4 := Lib.hid hh4
  have HO3 := Lib.hid hown4'
  have HO4 := Lib.hid hown4
  have HG4 := Lib.hid hg4
  clear HPART HINS HMARK hown4 hown4' hm4 hp4 hh4 hg4
  go_wp2_with fail
  have n1 : ¬ w1.heap.size = w.heap.size + 1 := by omega
  have n2 : ¬ w1.heap.size = w.heap.size := by omega
  have n3 : ¬ w.heap.size = w1.heap.size := by omega
  have n4 : ¬ w.heap.size + 1 = w1.heap.size := by omega
  go_region_held3 (fun w' => w'.cell? ⟨w.heap.size, 0, none⟩ = some (.int .i64 n) ∧ w'.cell? ⟨w.heap.size, 1, none⟩ = some (.slice a l.length cap) ∧ w'.cell? ⟨w1.heap.size, 0, none⟩ = some (.slice a3 vs.length c3) ∧ w'.cell? ⟨w1.heap.size + 1, 0, none⟩ = some (.slice a4 is.length c4)) (go_keep) ((go_at_call 73; refine HP4.out.mono ?_; rintro e w5 ⟨a5, c5, rfl, hown5, hne5, hb5⟩; have p0 := cell_of_one ((hb5.block _ (lt_of_block HM4.out)).trans HM4.out); have p1 := cell_of_one ((hb5.block _ (lt_of_block HPP.out)).trans HPP.out); have HR := Lib.hid ((hb5.block _ (lt_of_block HH4.out)).trans HH4.out); obtain ⟨⟨r0, r1⟩, rf0, rf1⟩ := two_cells HR.out; obtain ⟨⟨t0, t1⟩, tf0, tf1⟩ := two_cells ((hb5.block _ (lt_of_block HG4.out)).trans HG4.out)))
  all_goals go_wp2_with fail
  all_goals
    have hlt4 := lt_of_block HH4.out
    have hb6 : Below w.heap.size w w5 := b4.drew.trans (hb5.mono (by show w.heap.size ≤ w4.heap.size; omega))
    refine bodyPost_ret (v := .tuple #[.agg #[.int .i64 (vs.length : Int), .slice a5 Z.length c5], .slice a3 vs.length c3, .slice a4 is.length c4, .int .i64 0]) (by simp [results, Try.results51, go_sem, r0, r1]) rfl ⟨a5, c5, a3, c3, a4, c4, rfl, ?_, hne5, ?_, ?_, (hb6.setCell (by show _ ≤ w.heap.size + 1; omega) _).setCell (by show _ ≤ w.heap.size + 1; omega) _⟩
    · have h9 : OwnA ((w5.setCell ⟨w.heap.size + 1, 0, none⟩ (.int .i64 vs.length)).setCell ⟨w.heap.size + 1, 1, none⟩ (.slice a5 Z.length c5)) w4.heap.size a5 c5 Z := ownsRow_setCell_below (ownsRow_setCell_below hown5 (show w.heap.size + 1 < w4.heap.size by omega) _) (show w.heap.size + 1 < w4.heap.size by omega) _
      exact h9.base (by omega)
    · have h9 : w5.ownsRow W2.heap.size 3 1 (.slice a3 vs.length c3) vs.length (cellsI vs) := own_keep HO3.out (fun k _ h2 _ => hb5.block k h2)
      exact own_base (ownsRow_setCell_below (ownsRow_setCell_below h9 (show w.heap.size + 1 < W2.heap.size by omega) _) (show w.heap.size + 1 < W2.heap.size by omega) _) (by omega)
    · have h9 : w5.ownsRow w3.heap.size 3 1 (.slice a4 is.length c4) is.length (cellsI is) := own_keep HO4.out (fun k _ h2 _ => hb5.block k h2)
      exact own_base (ownsRow_setCell_below (ownsRow_setCell_below h9 (show w.heap.size + 1 < w3.heap.size by omega) _) (show w.heap.size + 1 < w3.heap.size by omega) _) (by omega)
end Go.Proofs.Ytchfccbneedejaa.T3
namespace Go.Proofs.Ytchfccbneedejaa.T3
open Go.RowKit
/-- A leader leads himself, and follows none that is greater. -/
structure RT (R : Nat → Nat) : Prop where
  rle : ∀ v, R v ≤ v
  rr : ∀ v, R (R v) = R v
theorem RT.mg {R : Nat → Nat} (h : RT R) (a b : Nat) : RT (mg R a b) := by
  have ra := h.rr a
  have rb := h.rr b
  have hm : R (min (R a) (R b)) = min (R a) (R b) := by
    rcases Nat.le_total (R a) (R b) with e | e
    · rw [Nat.min_eq_left e]; exact ra
    · rw [Nat.min_eq_right e]; exact rb
  have hle : min (R a) (R b) ≤ max (R a) (R b) := by omega
  unfold Go.Proofs.Ytchfccbneedejaa.T3.mg
  generalize min (R a) (R b) = m at *
  generalize max (R a) (R b) = M at *
  refine ⟨fun v => ?_, fun v => ?_⟩
  · have := h.rle v
    unfold mgW
    split <;> omega
  · by_cases e : R v = M
    · rw [show mgW R M m v = m from if_pos e]
      unfold mgW
      rw [hm]; split <;> rfl
    · rw [show mgW R M m v = R v from if_neg e]
      unfold mgW
      rw [h.rr v, if_neg e]
theorem foldl_RT : ∀ (l : List A) (R : Nat → Nat), RT R → RT (l.foldl (fun R x => mg R x.f.toNat x.t.toNat) R)
  | [], _, h => h
  | _ :: r, _, h => foldl_RT r _ (h.mg _ _)
theorem lead_RT (l : List A) : RT (lead l) := foldl_RT l id ⟨fun _ => Nat.le_refl _, fun _ => rfl⟩
theorem foldl_eq : ∀ (l : List A) (R : Nat → Nat) (u v : Nat), R u = R v → l.foldl (fun R x => mg R x.f.toNat x.t.toNat) R u = l.foldl (fun R x => mg R x.f.toNat x.t.toNat) R v
  | [], _, _, _, h => h
  | x :: r, R, u, v, h => foldl_eq r _ u v (by simp only [mg, mgW, h])
theorem mg_joins (R : Nat → Nat) (a b : Nat) : mg R a b a = mg R a b b := by
  unfold mg mgW
  rcases Nat.lt_trichotomy (R a) (R b) with e | e | e
  · rw [if_neg (by omega), if_pos (by omega)]; omega
  · rw [e]
  · rw [if_pos (by omega), if_neg (by omega)]; omega
theorem foldl_arc : ∀ (l : List A) (R : Nat → Nat) (x : A), x ∈ l → l.foldl (fun R x => mg R x.f.toNat x.t.toNat) R x.f.toNat = l.foldl (fun R x => mg R x.f.toNat x.t.toNat) R x.t.toNat
  | y :: r, R, x, h => by
    rcases List.mem_cons.1 h with rfl | h
    · exact foldl_eq r _ _ _ (mg_joins R _ _)
    · exact foldl_arc r _ x h
theorem lead_arc {l : List A} {x : A} (h : x ∈ l) : lead l x.f.toNat = lead l x.t.toNat := foldl_arc l id x h
theorem foldl_const {S : Nat → Nat} : ∀ (l : List A) (R : Nat → Nat), (∀ x ∈ l, S x.f.toNat = S x.t.toNat) → (∀ v, S (R v) = S v) → ∀ v, S (l.foldl (fun R x => mg R x.f.toNat x.t.toNat) R v) = S v
  | [], _, _, h => h
  | x :: r, R, hl, h => foldl_const r _ (fun y hy => hl y (List.mem_cons_of_mem _ hy)) (fun v => by
      have e := hl x List.mem_cons_self
      have ea := h x.f.toNat
      have eb := h x.t.toNat
      show S (if R v = max (R x.f.toNat) (R x.t.toNat) then min (R x.f.toNat) (R x.t.toNat) else R v) = S v
      split
      · rename_i hv
        rw [← h v, hv]
        rcases Nat.le_total (R x.f.toNat) (R x.t.toNat) with k | k
        · rw [Nat.min_eq_left k, Nat.max_eq_right k, ea, eb, e]
        · rw [Nat.min_eq_right k, Nat.max_eq_left k, ea, eb, e]
      · exact h v)
/-- What no arc leads out of is the same at the leader. -/
theorem lead_const {S : Nat → Nat} {l : List A} (hl : ∀ x ∈ l, S x.f.toNat = S x.t.toNat) (v : Nat) : S (lead l v) = S v := foldl_const l id hl (fun _ => rfl) v
theorem cnt_mono (R : Nat → Nat) {m n : Nat} (h : m ≤ n) : cnt R m ≤ cnt R n := by
  induction n with
  | zero => have : m = 0 := by omega
            subst this; exact Nat.le_refl _
  | succ n ih =>
    by_cases e : m = n + 1
    · subst e; exact Nat.le_refl _
    · have := ih (by omega)
      show _ ≤ (if R n = n then cnt R n + 1 else cnt R n)
      split <;> omega
theorem cnt_root {R : Nat → Nat} {r n : Nat} (hr : R r = r) (h : r < n) : cnt R r < cnt R n := by
  have h1 : cnt R (r + 1) = cnt R r + 1 := by rw [cnt, if_pos hr]
  have := cnt_mono R (show r + 1 ≤ n by omega)
  omega
theorem cnt_inj {R : Nat → Nat} {r s : Nat} (hr : R r = r) (hs : R s = s) (h : cnt R r = cnt R s) : r = s := by
  rcases Nat.lt_trichotomy r s with e | e | e
  · have := cnt_root hr e; omega
  · exact e
  · have := cnt_root hs e; omega
theorem cnt_find {R : Nat → Nat} : ∀ {n p : Nat}, p < cnt R n → ∃ v, v < n ∧ R v = v ∧ cnt R v = p
  | 0, _, h => absurd h (by simp [cnt])
  | n + 1, p, h => by
    by_cases hn : R n = n
    · rw [cnt, if_pos hn] at h
      by_cases e : p = cnt R n
      · exact ⟨n, by omega, hn, e.symm⟩
      · obtain ⟨v, h1, h2⟩ := cnt_find (R := R) (n := n) (p := p) (by omega)
        exact ⟨v, by omega, h2⟩
    · rw [cnt, if_neg hn] at h
      obtain ⟨v, h1, h2⟩ := cnt_find h
      exact ⟨v, by omega, h2⟩
/-- Labels are tidy. -/
theorem lab_step {R : Nat → Nat} (h : RT R) (k : Nat) : (lab R k = cnt R k ∧ cnt R (k + 1) = cnt R k + 1) ∨ (lab R k < cnt R k ∧ cnt R (k + 1) = cnt R k) := by
  by_cases e : R k = k
  · exact Or.inl ⟨by unfold lab; rw [e], by rw [cnt, if_pos e]⟩
  · have := h.rle k
    exact Or.inr ⟨by unfold lab; exact cnt_root (h.rr k) (by omega), by rw [cnt, if_neg e]⟩
theorem lab_lead {R : Nat → Nat} (h : RT R) {u v : Nat} (e : lab R u = lab R v) : R u = R v := cnt_inj (h.rr u) (h.rr v) e
theorem lab_arc {l : List A} {x : A} (h : x ∈ l) : lab (lead l) x.f.toNat = lab (lead l) x.t.toNat := by unfold lab; rw [lead_arc h]
theorem lead_le {l m : List A} (h : ∀ x ∈ l, lead m x.f.toNat = lead m x.t.toNat) (v : Nat) : lead m v ≤ lead l v := by
  rw [← lead_const h v]
  exact (lead_RT m).rle _
theorem lead_one {l m : List A} (h1 : ∀ x ∈ l, lead m x.f.toNat = lead m x.t.toNat) (h2 : ∀ x ∈ m, lead l x.f.toNat = lead l x.t.toNat) : lead l = lead m := by
  funext v
  exact Nat.le_antisymm (lead_le h2 v) (lead_le h1 v)
end Go.Proofs.Ytchfccbneedejaa.T3
namespace Go.Proofs.Ytchfccbneedejaa.T3
open Go.RowKit
theorem info4 : (Try.prog.info? 4).map (fun i => (i.zero, i.size, i.bytes)) = some (some (.bool false), 1, 1) := by kernel_rfl
/-- Truths as cells. -/
def cellsB (l : List Bool) : List Value := l.map Value.bool
theorem cellsB_len (l : List Bool) : (cellsB l).length = l.length := by unfold cellsB; simp
theorem cellsB_getD (xs : List Bool) (k : Nat) (h : k < xs.length) : (cellsB xs)[k]? = some (.bool (xs.getD k false)) := by
  unfold cellsB
  simp [List.getD, List.getElem?_eq_getElem h]
theorem cellsB_set (xs : List Bool) (k : Nat) (x : Bool) : (cellsB xs).set k (.bool x) = cellsB (xs.set k x) := by
  unfold cellsB
  rw [List.map_set]
theorem getDB_set (L : List Bool) (k j : Nat) (x : Bool) (hk : k < L.length) : (L.set k x).getD j false = if j = k then x else L.getD j false := by
  by_cases h : j = k
  · subst h; simp [List.getD, hk]
  · rw [if_neg h]; simp [List.getD, Ne.symm h]
/-- Truths in a row of our own. -/
def OwnB (w : World) (g n : Nat) (L : List Bool) : Prop := w.ownsRow g 4 1 (.slice (some ⟨g, 0, none⟩) n n) n (cellsB L)
theorem OwnB.cell {w : World} {g n : Nat} {L : List Bool} (h : OwnB w g n L) (hl : L.length = n) (k : Nat) (hk : k < n) : w.cell? ⟨g, k, none⟩ = some (.bool (L.getD k false)) := by
  rw [World.ownsRow.cellAt h k (by omega), cellsB_getD _ k (by omega)]
theorem OwnB.set {w : World} {g n : Nat} {L : List Bool} (h : OwnB w g n L) (k : Nat) (x : Bool) : OwnB (w.setCell ⟨g, k, none⟩ (.bool x)) g n (L.set k x) := by
  have := (World.ownsRow.stored h k (.bool x)).1
  rw [cellsB_set] at this
  exact this
theorem OwnB.free {w : World} {g n : Nat} {L : List Bool} (h : OwnB w g n L) (k : Nat) : w.frozen? ⟨g, k, none⟩ = false := World.ownsRow.frozenAt h k
theorem OwnB.lt {w : World} {g n : Nat} {L : List Bool} (h : OwnB w g n L) : g < w.heap.size := (World.ownsRow.lt h g rfl).2
theorem OwnB.bools {w : World} {g n : Nat} {L : List Bool} (h : OwnB w g n L) (hl : L.length = n) : Bools (· < w.heap.size) w (some ⟨g, 0, none⟩) L :=
  Or.inr ⟨g, 0, rfl, h.lt, fun j hj => by rw [Nat.zero_add]; exact h.cell hl j (by omega)⟩
theorem ownB_new {w : World} {base n : Nat} (h : w.ownsRow base 4 1 (.slice (some ⟨base, 0, none⟩) n n) n (madeCells (Value.bool false).cells (n * 1)).toList) : OwnB w base n (List.replicate n false) := by
  have e : (madeCells (Value.bool false).cells (n * 1)).toList = cellsB (List.replicate n false) := by
    show (madeCells #[Value.bool false] (n * 1)).toList = _
    rw [toList_madeCells_one, Nat.mul_one]
    unfold cellsB
    simp
  rw [e] at h
  exact h
theorem mem_getD {l : List A} {j : Nat} (h : j < l.length) : l.getD j A.zero ∈ l := by
  rw [show l.getD j A.zero = l[j] by simp [List.getD, List.getElem?_eq_getElem h]]; exact List.getElem_mem h
theorem labsI_getD (R : Nat → Nat) (n k : Nat) (h : k < n) : (ints (labs R n)).getD k 0 = ((lab R k : Nat) : Int) := by rw [ints_getD, labs_getD R n k h]
end Go.Proofs.Ytchfccbneedejaa.T3
namespace Go.Proofs.Ytchfccbneedejaa.T3
open Go.RowKit
/-- A row of numbers of our own, full. -/
def OwnZ (w : World) (g n : Nat) (L : List Int) : Prop := w.ownsRow g 3 1 (.slice (some ⟨g, 0, none⟩) n n) n (cellsI L)
theorem OwnZ.cell {w : World} {g n : Nat} {L : List Int} (h : OwnZ w g n L) (hl : L.length = n) (k : Nat) (hk : k < n) : w.cell? ⟨g, k, none⟩ = some (.int .i64 (L.getD k 0)) := by
  rw [World.ownsRow.cellAt h k (by omega), cellsI_getD L k (by omega)]
theorem OwnZ.set {w : World} {g n : Nat} {L : List Int} (h : OwnZ w g n L) (k : Nat) (x : Int) : OwnZ (w.setCell ⟨g, k, none⟩ (.int .i64 x)) g n (L.set k x) := by
  have := (World.ownsRow.stored h k (.int .i64 x)).1
  rw [cellsI_set] at this
  exact this
theorem OwnZ.free {w : World} {g n : Nat} {L : List Int} (h : OwnZ w g n L) (k : Nat) : w.frozen? ⟨g, k, none⟩ = false := World.ownsRow.frozenAt h k
theorem OwnZ.lt {w : World} {g n : Nat} {L : List Int} (h : OwnZ w g n L) : g < w.heap.size := (World.ownsRow.lt h g rfl).2
theorem getDI_set (L : List Int) (k j : Nat) (x : Int) (hk : k < L.length) : (L.set k x).getD j 0 = if j = k then x else L.getD j 0 := by
  by_cases h : j = k
  · subst h; simp [List.getD, hk]
  · rw [if_neg h]; simp [List.getD, Ne.symm h]
theorem ext_labs {R : Nat → Nat} {n : Nat} {X : List Int} (hx : X.length = n) (h : ∀ j, j < n → X.getD j 0 = ((lab R j : Nat) : Int)) : X = ints (labs R n) := by
  apply List.ext_getElem
  · rw [hx, ints_len, labs_len]
  · intro i h1 h2
    have e1 := h i (by omega)
    have e2 := labsI R n i (by omega)
    rw [← e2] at e1
    simpa [List.getD, List.getElem?_eq_getElem h1, List.getElem?_eq_getElem h2] using e1
where labsI (R : Nat → Nat) (n k : Nat) (h : k < n) : (ints (labs R n)).getD k 0 = ((lab R k : Nat) : Int) := by rw [ints_getD, labs_getD R n k h]
set_option maxHeartbeats 1600000 in
theorem rtidy_any (g n : Nat) (L : List Nat) (R : Nat → Nat) (w : World) (hn : n ≤ 1024) (hRT : RT R) (hLl : L.length = n) (hS : ∀ u v, u < n → v < n → (L.getD u 0 = L.getD v 0 ↔ R u = R v)) (ho : OwnL w g n L) :
    Calls Try.prog 56 #[.slice (some ⟨g, 0, none⟩) n n] w fun e w' => e = .returned (.slice (some ⟨w.heap.size, 0, none⟩) n n) ∧ OwnL w' w.heap.size n (labs R n) ∧ Below w.heap.size w w' := by
  obtain ⟨i0, hi, hz0, hz1, hz2⟩ := info_parts info3
  have hg := ho.lt
  have HS := Lib.hid hS
  have HRT := Lib.hid hRT
  have HLl := Lib.hid hLl
  clear hS hRT hLl
  go_enter Try.func56, Try.ntmps56
  go_wp2_with (at_make; refine wpList_make_full _ rfl (.tmp 8) (.tmp 8) 25 rfl w.heap.size 3 i0 (.int .i64 0) 1 Try.underlying25 hi hz0 hz1 .i64 .i64 n n n rfl rfl rfl rfl (by rw [hz2]; omega) (by unfold maxLen; omega) (Nat.le_refl _) ?_; intro w1 hown1 hgrow1)
  have hown0 : OwnZ w1 w.heap.size n (List.replicate n 0) := by
    have e : (madeCells (Value.int .i64 0).cells (n * 1)).toList = cellsI (List.replicate n 0) := by
      show (madeCells #[Value.int .i64 0] (n * 1)).toList = _
      rw [toList_madeCells_one, Nat.mul_one]
      unfold cellsI
      simp
    rw [e] at hown1
    exact hown1
  have hb1 : Below w.heap.size w w1 := (Below.refl _ _).grown hgrow1 (Nat.le_refl _) (by intro k hk; cases hk)
  clear hown1 hgrow1
  go_loopw [4, 5] (fun t i wr => ∃ (k : Nat) (X : List Int), k ≤ n ∧ i = .int .i64 (k : Int) ∧ t = .int .i64 ((cnt R k : Nat) : Int) ∧ Hid (X.length = n) ∧ Hid (∀ j, j < k → X.getD j 0 = ((lab R j : Nat) : Int)) ∧ OwnZ wr w.heap.size n X ∧ Below w.heap.size w wr) (fun _ i _ => n - (intOf i).toNat)
  case atStart => exact ⟨0, List.replicate n 0, Nat.zero_le _, rfl, rfl, by show _ = _; simp, by intro j hj; omega, hown0, hb1⟩
  case round =>
    obtain ⟨k, X, hk, rfl, rfl, HX, HJ, hown, hbel⟩ := hrel
    clear hown0 hb1
    have hck := cnt_le R k
    by_cases hlt : k < n
    · have cx := hown.cell HX.out k hlt
      have fx := hown.free k
      have hXl : k < X.length := by rw [HX.out]; exact hlt
      have hst := hown.set k (-1)
      have HJ1 : Hid (∀ j, j < k → (X.set k (-1)).getD j 0 = ((lab R j : Nat) : Int)) := by
        show ∀ j, _
        intro j hj
        rw [getDI_set _ _ _ _ hXl, if_neg (by omega)]
        exact HJ.out j hj
      have HK1 : Hid ((X.set k (-1)).getD k 0 = -1) := by show _ = _; rw [getDI_set _ _ _ _ hXl, if_pos rfl]
      have HX1 : Hid ((X.set k (-1)).length = n) := by show _ = _; rw [List.length_set]; exact HX.out
      have hb2 := hbel.setCell (p := ⟨w.heap.size, k, none⟩) (Nat.le_refl _) (.int .i64 (-1))
      generalize X.getD k 0 = x0 at *
      generalize X.set k (-1) = X1 at *
      obtain ⟨c, HC⟩ := named (cnt R k)
      rw [HC.out] at hck ⊢
      clear HJ HX hXl
      go_wp2_with fail
      go_loopw [6] (fun i wr => ∃ (u : Nat) (Y : List Int), u ≤ k ∧ i = .int .i64 (u : Int) ∧ Hid (Y.length = n) ∧ Hid (∀ j, j < k → Y.getD j 0 = ((lab R j : Nat) : Int)) ∧ Hid ((Y.getD k 0 = -1 ∧ ∀ j, j < u → L.getD j 0 ≠ L.getD k 0) ∨ (Y.getD k 0 = ((lab R k : Nat) : Int) ∧ R k ≠ k)) ∧ OwnZ wr w.heap.size n Y ∧ Below w.heap.size w wr) (fun i _ => k - (intOf i).toNat)
      case atStart => exact ⟨0, X1, Nat.zero_le _, rfl, HX1, HJ1, Or.inl ⟨HK1.out, by intro j hj; omega⟩, hst, hb2⟩
      case round =>
        obtain ⟨u, Y, hu, rfl, HY, HYJ, HALT, ho3, hb3⟩ := hrel
        clear cx fx hst hb2 HJ1 HK1 HX1 hown hbel
        have ck := ho3.cell HY.out k hlt
        have fk := ho3.free k
        have hYl : k < Y.length := by rw [HY.out]; exact hlt
        rcases HALT.out with ⟨e1, e2⟩ | ⟨e1, e2⟩
        · rw [e1] at ck
          by_cases huk : u < k
          · have lu := (hb3.cell (p := ⟨g, u, none⟩) hg).trans (ho.cell HLl.out u (by omega))
            have lk := (hb3.cell (p := ⟨g, k, none⟩) hg).trans (ho.cell HLl.out k hlt)
            have cu := ho3.cell HY.out u (by omega)
            rw [HYJ.out u huk] at cu
            by_cases hq : L.getD u 0 = L.getD k 0
            · rw [hq] at lu
              have hR := (HS.out u k (by omega) hlt).1 hq
              have HNE : Hid (R k ≠ k) := by
                show _ ≠ _
                intro h
                have := HRT.out.rle u
                omega
              have HLB : Hid (lab R k = lab R u) := by show _ = _; unfold lab; rw [hR]
              have hst := ho3.set k ((lab R u : Nat) : Int)
              have HJ2 : Hid (∀ j, j < k → (Y.set k ((lab R u : Nat) : Int)).getD j 0 = ((lab R j : Nat) : Int)) := by
                show ∀ j, _
                intro j hj
                rw [getDI_set _ _ _ _ hYl, if_neg (by omega)]
                exact HYJ.out j hj
              have HK2 : Hid ((Y.set k ((lab R u : Nat) : Int)).getD k 0 = ((lab R k : Nat) : Int)) := by show _ = _; rw [getDI_set _ _ _ _ hYl, if_pos rfl, HLB.out]
              have HX2 : Hid ((Y.set k ((lab R u : Nat) : Int)).length = n) := by show _ = _; rw [List.length_set]; exact HY.out
              clear e1 e2 hq hR
              generalize lab R u = z at *
              generalize L.getD k 0 = y at *
              go_wp2_with fail
              go_quiet (fail)
              go_wp2_with fail
              exact ⟨⟨u + 1, _, by omega, by go_num, HX2, HJ2, Or.inr ⟨HK2.out, HNE.out⟩, OwnZ.set (w := wr.drewN nq) (show OwnZ (wr.drewN nq) _ _ _ from ho3) k _, (hb3.trans (below_drewN _ _ _)).setCell (Nat.le_refl _) _⟩, by simp [intOf]; omega⟩
            · have hq' : (((L.getD u 0 : Nat) : Int) == ((L.getD k 0 : Nat) : Int)) = false := beq_eq_false_iff_ne.2 (by omega)
              have HE2 : Hid (∀ j, j < u + 1 → L.getD j 0 ≠ L.getD k 0) := by
                show ∀ j, _
                intro j hj
                by_cases e : j = u
                · rw [e]; exact hq
                · exact e2 j (by omega)
              clear e2 hq
              have E1 := Lib.hid e1
              clear e1
              generalize L.getD u 0 = y1 at *
              generalize L.getD k 0 = y2 at *
              generalize lab R u = z at *
              go_wp2_with fail
              go_quiet (fail)
              go_wp2_with fail
              exact ⟨⟨u + 1, Y, by omega, by go_num, HY, HYJ, Or.inl ⟨E1.out, HE2.out⟩, ho3, hb3.trans (below_drewN _ _ _)⟩, by simp [intOf]; omega⟩
          · have hRk : R k = k := by
              rcases Nat.lt_or_ge (R k) k with h | h
              · exact absurd ((HS.out (R k) k (by omega) hlt).2 (HRT.out.rr k)) (e2 (R k) (by omega))
              · have := HRT.out.rle k
                omega
            have HE2 : Hid (cnt R (k + 1) = c + 1) := by show _ = _; rw [cnt, if_pos hRk, HC.out]
            have HLB : Hid (lab R k = c) := by show _ = _; unfold lab; rw [hRk, HC.out]
            have hst := ho3.set k (c : Int)
            have HJ2 : Hid (∀ j, j < k + 1 → (Y.set k (c : Int)).getD j 0 = ((lab R j : Nat) : Int)) := by
              show ∀ j, _
              intro j hj
              rw [getDI_set _ _ _ _ hYl]
              split
              · rename_i e; rw [e, HLB.out]
              · exact HYJ.out j (by omega)
            have HX2 : Hid ((Y.set k (c : Int)).length = n) := by show _ = _; rw [List.length_set]; exact HY.out
            clear e1 e2 hRk
            go_wp2_with fail
            exact ⟨⟨k + 1, _, by omega, by go_num, by rw [HE2.out]; go_num, HX2, HJ2, hst, hb3.setCell (Nat.le_refl _) _⟩, by simp [intOf]; omega⟩
        · have HE2 : Hid (cnt R (k + 1) = c) := by show _ = _; rw [cnt, if_neg e2, HC.out]
          have HJ2 : Hid (∀ j, j < k + 1 → Y.getD j 0 = ((lab R j : Nat) : Int)) := by
            show ∀ j, _
            intro j hj
            by_cases e : j = k
            · rw [e, e1]
            · exact HYJ.out j (by omega)
          rw [e1] at ck
          have E1 := Lib.hid e1
          clear e1 e2
          generalize lab R k = z at *
          have hz0 : ¬ ((z : Nat) : Int) < 0 := by omega
          by_cases huk : u < k
          · go_wp2_with fail
            exact ⟨⟨k + 1, Y, by omega, by go_num, by rw [HE2.out], HY, HJ2, ho3, hb3⟩, by simp [intOf]; omega⟩
          · go_wp2_with fail
            exact ⟨⟨k + 1, Y, by omega, by go_num, by rw [HE2.out], HY, HJ2, ho3, hb3⟩, by simp [intOf]; omega⟩
    · have hX : X = ints (labs R n) := ext_labs HX.out (fun j hj => HJ.out j (by omega))
      rw [hX] at hown
      clear hX
      go_wp2_with fail
      go_ret
      exact ⟨rfl, hown, hbel⟩
end Go.Proofs.Ytchfccbneedejaa.T3
