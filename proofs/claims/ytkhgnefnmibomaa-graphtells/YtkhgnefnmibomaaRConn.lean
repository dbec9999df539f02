/-
  Contract of the reference's Connected.
-/
import Derived.Test.YtkhgnefnmibomaaRTidy
import Derived.Test.YtkhgnefnmibomaaLawParts
import Derived.BigRegion
namespace Go.Proofs.Ytkhgnefnmibomaa
open Go.RowKit
/-- The sum of the numbers in a block. -/
def sumAt (w : World) (g n : Nat) : Nat := ((List.range n).map (fun k => (intOf ((w.cell? ⟨g, k, none⟩).getD undef)).toNat)).sum
theorem sum_range (X : List Nat) : ((List.range X.length).map (fun k => X.getD k 0)).sum = X.sum := by
  have : (List.range X.length).map (fun k => X.getD k 0) = X := by
    apply List.ext_getElem
    · simp
    · intro i h1 h2
      simp [List.getD, List.getElem?_eq_getElem h2]
  rw [this]
theorem sumAt_own {w : World} {g n : Nat} {X : List Nat} (h : OwnL w g n X) (hl : X.length = n) : sumAt w g n = X.sum := by
  unfold sumAt
  rw [← sum_range X, hl]
  congr 1
  apply List.map_congr_left
  intro k hk
  rw [h.cell hl k (List.mem_range.1 hk)]
  simp [intOf]
theorem sum_set : ∀ (X : List Nat) (k m : Nat), k < X.length → (X.set k m).sum + X.getD k 0 = X.sum + m
  | [], _, _, h => absurd h (by simp)
  | x :: r, 0, m, _ => by simp; omega
  | x :: r, k + 1, m, h => by
    have := sum_set r k m (by simpa using h)
    simp at this ⊢
    omega
/-- Both ends take the lesser one. -/
def low2 (X : List Nat) (f t : Nat) : List Nat := (X.set f (min (X.getD f 0) (X.getD t 0))).set t (min (X.getD f 0) (X.getD t 0))
theorem low2_len (X : List Nat) (f t : Nat) : (low2 X f t).length = X.length := by unfold low2; simp
theorem low2_sum {X : List Nat} {f t : Nat} (hf : f < X.length) (ht : t < X.length) (hne : X.getD f 0 ≠ X.getD t 0) : (low2 X f t).sum < X.sum := by
  have hft : ¬ t = f := by intro h; rw [h] at hne; exact hne rfl
  have h1 := sum_set X f (min (X.getD f 0) (X.getD t 0)) hf
  have h2 := sum_set (X.set f (min (X.getD f 0) (X.getD t 0))) t (min (X.getD f 0) (X.getD t 0)) (by simpa using ht)
  rw [getD_set _ _ _ _ hf, if_neg hft] at h2
  unfold low2
  omega
theorem low2_get {X : List Nat} {f t : Nat} (hf : f < X.length) (ht : t < X.length) (v : Nat) : (low2 X f t).getD v 0 = if v = t ∨ v = f then min (X.getD f 0) (X.getD t 0) else X.getD v 0 := by
  unfold low2
  rw [getD_set _ _ _ _ (by simpa using ht), getD_set _ _ _ _ hf]
  by_cases h1 : v = t
  · simp [h1]
  · by_cases h2 : v = f
    · simp [h2]
    · simp [h1, h2]
theorem low2_R {R : Nat → Nat} {X : List Nat} {f t n : Nat} (hl : X.length = n) (hf : f < n) (ht : t < n) (h : ∀ v, v < n → R (X.getD v 0) = R v) (hR : R f = R t) : ∀ v, v < n → R ((low2 X f t).getD v 0) = R v := by
  intro v hv
  rw [low2_get (by omega) (by omega)]
  have h1 := h f hf
  have h2 := h t ht
  split
  · rename_i e
    rcases Nat.le_total (X.getD f 0) (X.getD t 0) with k | k
    · rw [Nat.min_eq_left k, h1]
      rcases e with e | e
      · rw [e, hR]
      · rw [e]
    · rw [Nat.min_eq_right k, h2]
      rcases e with e | e
      · rw [e]
      · rw [e, hR]
  · exact h v hv
/-- A truth, as a number. -/
def bitOf : Value → Nat
  | .bool true => 1
  | _ => 0
theorem conn_same {B : List A} {X : List Nat} {n : Nat} (h : ∀ v, v < n → lead B (X.getD v 0) = lead B v) (hB : ∀ x ∈ B, X.getD x.f.toNat 0 = X.getD x.t.toNat 0) : ∀ u v, u < n → v < n → (X.getD u 0 = X.getD v 0 ↔ lead B u = lead B v) := by
  intro u v hu hv
  constructor
  · intro e
    rw [← h u hu, ← h v hv, e]
  · intro e
    have h1 := lead_const (S := fun v => X.getD v 0) (l := B) hB u
    have h2 := lead_const (S := fun v => X.getD v 0) (l := B) hB v
    have h3 : X.getD (lead B u) 0 = X.getD u 0 := h1
    have h4 : X.getD (lead B v) 0 = X.getD v 0 := h2
    rw [← h3, ← h4, e]
/-- What a round's regions find. -/
structure ConnE (w W : World) (bx n f t zf zt bk o : Nat) (qb : Bool) (Z : List Nat) (ob : Obj) : Prop where
  x0 : W.cell? ⟨bx, 0, none⟩ = some (.int .i64 (f : Int))
  x1 : W.cell? ⟨bx, 1, none⟩ = some (.int .i64 (t : Int))
  cf : W.cell? ⟨w.heap.size + 1, f, none⟩ = some (.int .i64 (zf : Int))
  ct : W.cell? ⟨w.heap.size + 1, t, none⟩ = some (.int .i64 (zt : Int))
  ff : W.frozen? ⟨w.heap.size + 1, f, none⟩ = false
  ft : W.frozen? ⟨w.heap.size + 1, t, none⟩ = false
  ck : W.cell? ⟨bk, o, none⟩ = some (.bool qb)
  ho : OwnL W (w.heap.size + 1) n Z
  hg : W.heap[w.heap.size]? = some ob
  hb : Below w.heap.size w W
theorem ConnE.drewN {w W : World} {bx n f t zf zt bk o : Nat} {qb : Bool} {Z : List Nat} {ob : Obj} (h : ConnE w W bx n f t zf zt bk o qb Z ob) (m : Nat) : ConnE w (W.drewN m) bx n f t zf zt bk o qb Z ob :=
  ⟨h.x0, h.x1, h.cf, h.ct, h.ff, h.ft, h.ck, h.ho, h.hg, h.hb.trans (below_drewN _ _ _)⟩
set_option maxHeartbeats 3200000 in
theorem rconn_any (n : Nat) (a : Option Addr) (l : List A) (cap : Nat) (a' : Option Addr) (q : List Bool) (cap' : Nat) (B : List A) (w : World) (hn : n ≤ 1024) (hl : l.length ≤ 8192) (hQ : q.length = l.length) (hall : ∀ x ∈ l, (0 ≤ x.f ∧ x.f < n) ∧ (0 ≤ x.t ∧ x.t < n))
    (hB1 : ∀ i, i < l.length → q.getD i false = true → l.getD i A.zero ∈ B) (hB2 : ∀ x ∈ B, ∃ i, i < l.length ∧ q.getD i false = true ∧ l.getD i A.zero = x) (hr : Arcs w a l) (hkp : Bools (· < w.heap.size) w a' q) :
    Calls Try.prog 45 #[.agg #[.int .i64 n, .slice a l.length cap], .slice a' l.length cap'] w fun e w' => ∃ g, e = .returned (.slice (some ⟨g, 0, none⟩) n n) ∧ OwnL w' g n (labs (lead B) n) ∧ w.heap.size ≤ g ∧ Below w.heap.size w w' := by
  obtain ⟨i0, hi, hz0, hz1, hz2⟩ := info_parts info3
  have hb0 : Below w.heap.size w (w.alloc (.cells #[.int .i64 n, .slice a l.length cap] 24)) := (Below.refl _ _).alloc (Nat.le_refl _) _
  have hg0 := heap_top w (.cells #[.int .i64 n, .slice a l.length cap] 24)
  have s0 := lt_of_block hg0
  obtain ⟨b, o, hab⟩ := hr.b.get
  obtain ⟨bk, ok, habk⟩ := hkp.get
  rw [hQ] at habk
  have HALL := Lib.hid hall
  have HARC := Lib.hid (fun i (h : i < l.length) (hq : q.getD i false = true) => lead_arc (hB1 i h hq))
  have HB2 := Lib.hid hB2
  have HRT := Lib.hid (lead_RT B)
  clear hall hB1 hB2 hQ
  go_enter Try.func45, Try.ntmps45
  go_wp2_with (at_make; refine wpList_make_full _ rfl (.tmp 12) (.tmp 12) 29 rfl _ 3 i0 (.int .i64 0) 1 Try.underlying29 hi hz0 hz1 .i64 .i64 n n n rfl rfl rfl rfl (by rw [hz2]; omega) (by unfold maxLen; omega) (Nat.le_refl _) ?_; intro w1 hown1 hgrow1; have hb1 := (Below.refl _ _).grown hgrow1 (Nat.le_refl _) (by intro k hk; cases hk); have hg1 := (hb1.block _ s0).trans hg0; obtain ⟨⟨g0, g1⟩, gf0, gf1⟩ := two_cells hg1)
  have eg : (w.alloc (.cells #[.int .i64 n, .slice a l.length cap] 24)).heap.size = w.heap.size + 1 := by simp
  rw [eg] at hown1
  have hown0 : OwnL w1 (w.heap.size + 1) n (List.replicate n 0) := by
    have e : (madeCells (Value.int .i64 0).cells (n * 1)).toList = cellsI (ints (List.replicate n 0)) := by
      show (madeCells #[Value.int .i64 0] (n * 1)).toList = _
      rw [toList_madeCells_one, Nat.mul_one]
      unfold cellsI ints
      simp
    rw [e] at hown1
    exact hown1
  have b1 := bthen hb0 hb1 (by simp)
  clear hown1 hgrow1 hb1 hb0 hg0 s0 eg g0 g1 gf0 gf1
  go_loopw [6] (fun i wr => ∃ (k : Nat) (X : List Nat), k ≤ n ∧ i = .int .i64 (k : Int) ∧ Hid (X.length = n) ∧ Hid (∀ j, j < k → X.getD j 0 = j) ∧ OwnL wr (w.heap.size + 1) n X ∧ wr.heap[w.heap.size]? = some (.cells #[.int .i64 n, .slice a l.length cap] 24) ∧ Below w.heap.size w wr) (fun i _ => n - (intOf i).toNat)
  case atStart => exact ⟨0, List.replicate n 0, Nat.zero_le _, rfl, by show _ = _; simp, by intro j hj; omega, hown0, hg1, b1⟩
  case round =>
    obtain ⟨k, X, hk, rfl, HX, HJ, hown, hg, hb⟩ := hrel
    clear hown0 hg1 b1
    obtain ⟨⟨g0, g1⟩, gf0, gf1⟩ := two_cells hg
    have hsz := hown.lt
    by_cases hlt : k < n
    · have cx := hown.cell HX.out k hlt
      have fx := hown.free k
      have hst := hown.set k k
      have HN : Hid (∀ j, j < k + 1 → (X.set k k).getD j 0 = j) := by
        show ∀ j, _
        intro j hj
        rw [getD_set _ _ _ _ (by rw [HX.out]; exact hlt)]
        split
        · rename_i e; exact e.symm
        · exact HJ.out j (by omega)
      generalize X.getD k 0 = x0 at *
      go_wp2_with fail
      have z1 := (Below.refl (w.heap.size + 1) wr).setCell (p := ⟨w.heap.size + 1, k, none⟩) (Nat.le_refl _) (.int .i64 (k : Int))
      exact ⟨⟨k + 1, _, by omega, by go_num, by show _ = _; rw [List.length_set]; exact HX.out, HN, hst, (z1.block _ (Nat.lt_succ_self _)).trans hg, hb.trans (z1.mono (Nat.le_succ _))⟩, by simp [intOf]; omega⟩
    · have HI : Hid (∀ v, v < n → lead B (X.getD v 0) = lead B v) := fun v hv => by rw [HJ.out v (by omega)]
      clear HJ
      go_wp2_with fail
      go_loopw [7] (fun i wr => ∃ (again : Bool) (X : List Nat), i = .bool again ∧ Hid (X.length = n) ∧ Hid (∀ v, v < n → lead B (X.getD v 0) = lead B v) ∧ Hid (again = false → ∀ j, j < l.length → q.getD j false = true → X.getD (l.getD j A.zero).f.toNat 0 = X.getD (l.getD j A.zero).t.toNat 0) ∧ OwnL wr (w.heap.size + 1) n X ∧ wr.heap[w.heap.size]? = some (.cells #[.int .i64 n, .slice a l.length cap] 24) ∧ Below w.heap.size w wr) (fun i wr => 2 * sumAt wr (w.heap.size + 1) n + bitOf i)
      case atStart => exact ⟨true, X, rfl, HX, HI, (by intro h; cases h), hown, hg, hb⟩
      case round =>
        obtain ⟨again, Y, rfl, HY, HYI, HYA, ho2, hg2, hb2⟩ := hrel
        clear hown hg hb g0 g1 gf0 gf1 hsz
        cases again
        · have HSAME : Hid (∀ u v, u < n → v < n → (Y.getD u 0 = Y.getD v 0 ↔ lead B u = lead B v)) := conn_same HYI.out (fun x hx => by
            obtain ⟨i, hi, hq, rfl⟩ := HB2.out x hx
            exact HYA.out rfl i hi hq)
          go_wp2_with fail
          refine (rtidy_any (w.heap.size + 1) n Y (lead B) _ hn HRT.out HY.out HSAME.out ho2).mono ?_
          rintro e w8 ⟨rfl, ho8, hb8⟩
          have s8 := hb2.size
          go_wp2_with fail
          go_ret
          exact ⟨wr.heap.size, rfl, ho8, s8, bthen hb2 hb8 s8⟩
        · obtain ⟨w3, hw3⟩ : ∃ x, x = wr := ⟨wr, rfl⟩
          subst hw3
          have HSUM : Hid (sumAt w3 (w.heap.size + 1) n = Y.sum) := sumAt_own ho2 HY.out
          rw [HSUM.out]
          have hs2 := ho2.lt
          go_wp2_with fail
          go_loopw [7, 8] (fun ag i wr => ∃ (again : Bool) (k : Nat) (Z : List Nat), ag = .bool again ∧ k ≤ l.length ∧ i = .int .i64 (k : Int) ∧ Hid (Z.length = n) ∧ Hid (∀ v, v < n → lead B (Z.getD v 0) = lead B v) ∧ Hid (again = false → Z = Y ∧ ∀ j, j < k → q.getD j false = true → Y.getD (l.getD j A.zero).f.toNat 0 = Y.getD (l.getD j A.zero).t.toNat 0) ∧ Hid (again = true → Z.sum < Y.sum) ∧ OwnL wr (w.heap.size + 1) n Z ∧ wr.heap[w.heap.size]? = some (.cells #[.int .i64 n, .slice a l.length cap] 24) ∧ Below w.heap.size w wr) (fun _ i _ => l.length - (intOf i).toNat)
          case atStart => exact ⟨false, 0, Y, rfl, Nat.zero_le _, rfl, HY, HYI, (fun _ => ⟨rfl, by intro j hj; omega⟩), (by intro h; cases h), ho2, hg2, hb2⟩
          case round =>
            obtain ⟨again, k, Z, rfl, hk3, rfl, HZ, HZI, HZA, HZS, ho3, hg3, hb3⟩ := hrel
            clear ho2 hg2 hb2 hs2
            obtain ⟨⟨g0, g1⟩, gf0, gf1⟩ := two_cells hg3
            have hsz := ho3.lt
            by_cases hkl : k < l.length
            · obtain ⟨rfl, hbl, hat⟩ := hab (by omega)
              obtain ⟨c0, c1, c2⟩ := (hat k hkl).onB hbl hb3
              have hx := HALL.out _ (mem_getD hkl)
              obtain ⟨rfl, hbk, hck⟩ := habk (by omega)
              have ck := (hb3.cell (p := ⟨bk, ok + k, none⟩) hbk).trans (hck k hkl)
              have HRA := Lib.hid (HARC.out k hkl)
              generalize hxk : l.getD k A.zero = x at *
              obtain ⟨xf, xt, xw⟩ := x
              obtain ⟨f, hf⟩ : ∃ f : Nat, xf = f := ⟨xf.toNat, by have := hx.1.1; simp at this; omega⟩
              obtain ⟨t, ht⟩ : ∃ t : Nat, xt = t := ⟨xt.toNat, by have := hx.2.1; simp at this; omega⟩
              subst hf ht
              have hfn : f < n := by have := hx.1.2; simp at this; omega
              have htn : t < n := by have := hx.2.2; simp at this; omega
              have HXK := Lib.hid hxk
              clear hx hxk
              have cf := ho3.cell HZ.out f hfn
              have ct := ho3.cell HZ.out t htn
              have ff := ho3.free f
              have ft := ho3.free t
              have bx := (Below.refl wr.heap.size wr).alloc (Nat.le_refl _) (.cells #[.int .i64 (f : Int), .int .i64 (t : Int), .int .u32 xw] 53)
              obtain ⟨y0, y1, _⟩ := three_cells (heap_top wr (.cells #[.int .i64 (f : Int), .int .i64 (t : Int), .int .u32 xw] 53))
              have ho5 : OwnL (wr.alloc (.cells #[.int .i64 (f : Int), .int .i64 (t : Int), .int .u32 xw] 53)) (w.heap.size + 1) n Z := World.ownsRow.alloc ho3 _
              have hE5 : ConnE w (wr.alloc (.cells #[.int .i64 (f : Int), .int .i64 (t : Int), .int .u32 xw] 53)) wr.heap.size n f t (Z.getD f 0) (Z.getD t 0) bk (ok + k) (q.getD k false) Z (.cells #[.int .i64 n, .slice (some ⟨b, o, none⟩) l.length cap] 24) :=
                ⟨y0, y1, (bx.cell (p := ⟨w.heap.size + 1, f, none⟩) hsz).trans cf, (bx.cell (p := ⟨w.heap.size + 1, t, none⟩) hsz).trans ct, ho5.free f, ho5.free t, (bx.cell (p := ⟨bk, ok + k, none⟩) (show bk < wr.heap.size by omega)).trans ck, ho5, (bx.block _ (show w.heap.size < wr.heap.size by omega)).trans hg3, hb3.trans (bx.mono (by omega))⟩
              have HE5 := Lib.hid hE5
              have HLN := Lib.hid (low2_len Z f t)
              have HLR : Hid (q.getD k false = true → ∀ v, v < n → lead B ((low2 Z f t).getD v 0) = lead B v) := fun hq => low2_R HZ.out hfn htn HZI.out (by have := HRA.out hq; simpa using this)
              have HLS : Hid (Z.getD f 0 ≠ Z.getD t 0 → (low2 Z f t).sum < Z.sum) := low2_sum (by rw [HZ.out]; exact hfn) (by rw [HZ.out]; exact htn)
              have HLD : Hid (low2 Z f t = (Z.set f (min (Z.getD f 0) (Z.getD t 0))).set t (min (Z.getD f 0) (Z.getD t 0))) := rfl
              have HKA : Hid (again = false → Z.getD f 0 = Z.getD t 0 ∨ q.getD k false = false → Z = Y ∧ ∀ j, j < k + 1 → q.getD j false = true → Y.getD (l.getD j A.zero).f.toNat 0 = Y.getD (l.getD j A.zero).t.toNat 0) := by
                intro h1 h2
                obtain ⟨e1, e2⟩ := HZA.out h1
                refine ⟨e1, fun j hj hq => ?_⟩
                by_cases e : j = k
                · subst e
                  rw [HXK.out]
                  rcases h2 with h2 | h2
                  · rw [e1] at h2
                    simpa using h2
                  · rw [h2] at hq
                    cases hq
                · exact e2 j (by omega) hq
              have HZLE : Hid (Z.sum ≤ Y.sum) := by
                show _ ≤ _
                cases again
                · rw [(HZA.out rfl).1]; exact Nat.le_refl _
                · exact Nat.le_of_lt (HZS.out rfl)
              clear bx y0 y1 ho5 hE5
              have hlsx : wr.heap.size ≠ w.heap.size + 1 := by omega
              go_wp2_with fail
              clear c0 c1 c2 ck cf ct ff ft g0 g1 gf0 gf1 ho3 hg3 hb3
              generalize hW5 : wr.alloc (.cells #[.int .i64 (f : Int), .int .i64 (t : Int), .int .u32 xw] 53) = W5 at *
              clear hW5 HXK HRA HZA
              generalize Z.getD f 0 = zf at *
              generalize Z.getD t 0 = zt at *
              generalize low2 Z f t = Z2 at *
              generalize q.getD k false = qb at *
              obtain ⟨y0, y1, cf, ct, ff, ft, ck, _, _, _⟩ := HE5.out
              go_quiet (fail)
              have HMN : Hid ((if zt < zf then (zt : Int) else (zf : Int)) = ((min zf zt : Nat) : Int)) := by
                show _ = _
                split
                · rw [Nat.min_eq_right (by omega)]
                · rw [Nat.min_eq_left (by omega)]
              rw [HMN.out]
              have HE6 := Lib.hid (HE5.out.drewN nq)
              clear y0 y1 cf ct ff ft ck HE5 HMN
              generalize W5.drewN nq = W6 at *
              obtain ⟨y0, y1, cf, ct, ff, ft, ck, ho6, hg6, hb6⟩ := HE6.out
              generalize min zf zt = mn at *
              have HO6 := Lib.hid ho6
              have HG6 := Lib.hid hg6
              clear ho6 hg6
              by_cases hqb : qb = true
              · subst hqb
                by_cases hz : zf = zt
                · have HA2 := Lib.hid (fun h => HKA.out h (Or.inl hz))
                  subst hz
                  clear HKA HLS HLR HLD
                  go_wp2_with fail
                  go_quiet (fail)
                  go_wp2_with fail
                  exact ⟨⟨again, k + 1, Z, rfl, by omega, by go_num, HZ, HZI, HA2, HZS, HO6.out, HG6.out, hb6.trans (below_drewN _ _ _)⟩, by simp [intOf]; omega⟩
                · have hz' : ((zf : Int) == (zt : Int)) = false := beq_eq_false_iff_ne.2 (by omega)
                  have HS2 := Lib.hid (HLS.out hz)
                  have HR2 := Lib.hid (HLR.out rfl)
                  clear HKA HLS HLR hz
                  go_wp2_with fail
                  go_quiet (fail)
                  go_wp2_with fail
                  have HE7 := Lib.hid (HE6.out.drewN nq)
                  clear y0 y1 cf ct ff ft ck HE6 HO6 HG6 hb6
                  generalize W6.drewN nq = W7 at *
                  obtain ⟨y0, y1, cf, ct, ff, ft, ck, ho7, hg7, hb7⟩ := HE7.out
                  have HO7 := Lib.hid ho7
                  have HG7 := Lib.hid hg7
                  have ct2 := (ho7.set f mn).cell (by rw [List.length_set]; exact HZ.out) t htn
                  have ft2 := (ho7.set f mn).free t
                  generalize (Z.set f mn).getD t 0 = zt2 at *
                  clear ho7 hg7 ck
                  go_region
                  go_wp2_with fail
                  have z1 := ((Below.refl (w.heap.size + 1) W7).setCell (p := ⟨w.heap.size + 1, f, none⟩) (Nat.le_refl _) (.int .i64 (mn : Int))).setCell (p := ⟨w.heap.size + 1, t, none⟩) (Nat.le_refl _) (.int .i64 (mn : Int))
                  exact ⟨⟨true, k + 1, Z2, rfl, by omega, by go_num, HLN.out.trans HZ.out, HR2, (by intro h; cases h), (fun _ => Nat.lt_of_lt_of_le HS2.out HZLE.out), by rw [HLD.out]; exact (HO7.out.set f mn).set t mn, (z1.block _ (Nat.lt_succ_self _)).trans HG7.out, (hb7.trans (z1.mono (Nat.le_succ _))).drew⟩, by simp [intOf]; omega⟩
              · have hqb' : qb = false := by simpa using hqb
                have HA2 := Lib.hid (fun h => HKA.out h (Or.inr hqb'))
                subst hqb'
                clear HKA HLS HLR HLD hqb
                go_wp2_with fail
                go_quiet (fail)
                go_wp2_with fail
                exact ⟨⟨again, k + 1, Z, rfl, by omega, by go_num, HZ, HZI, HA2, HZS, HO6.out, HG6.out, hb6.trans (below_drewN _ _ _)⟩, by simp [intOf]; omega⟩
            · go_wp2_with fail
              refine ⟨⟨again, Z, rfl, HZ, HZI, ?_, ho3, hg3, hb3⟩, ?_⟩
              · intro h j hj hq
                obtain ⟨e1, e2⟩ := HZA.out h
                rw [e1]
                exact e2 j (by omega) hq
              · rw [sumAt_own ho3 HZ.out]
                cases again
                · rw [(HZA.out rfl).1]
                  simp [bitOf]
                · have := HZS.out rfl
                  simp [bitOf]
                  omega
end Go.Proofs.Ytkhgnefnmibomaa
