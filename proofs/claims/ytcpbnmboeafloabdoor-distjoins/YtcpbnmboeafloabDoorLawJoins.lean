/-
  The walk of the statement DistJoins: it returns true for every two lists of distances.
-/
import Derived.Test.YtcpbnmboeafloabDoorLists
namespace Go.Proofs.YtcpbnmboeafloabDoor
open Go.RowKit
/-- A list that came in is appended to one of one's own. -/
theorem append_came {w : World} {ops : Array Oper} {rest : List Oper} {o : Oper} {act : Act} {Q : Exit → Act → World → Prop} (hgd : o.guard = none) (s x : Operand)
    (ho : o.op = .call { callee := .builtin .append, args := #[s, x], argTypes := #[22, 22] }) (base : Nat) (v : Value) (n : Nat) (xs : List Value) (hs : act.eval s = v) (hown : w.ownsRow base 29 1 v n xs)
    (a : Option Addr) (cap : Nat) (l : List Int) (hx : act.eval x = .slice a l.length cap) (hc : Came w a cap l) (hb : (n + l.length) * 8 ≤ 140737488355328) (hbase : base ≤ w.heap.size) (hnn : v ≠ .slice none 0 0)
    (n' : Nat) (hn : n + l.length = n') (xs' : List Value) (hxs : xs ++ cellsD l = xs')
    (h : ∀ g c w', w'.ownsRow base 29 1 (.slice (some ⟨g, 0, none⟩) n' c) n' xs' → w.grownBy w' v.ownBlock → n' ≤ c → c ≤ 9223372036854775807 → base ≤ g → g < w'.heap.size → wpList Tryd.prog ops Q rest (act.put o.dst (.slice (some ⟨g, 0, none⟩) n' c)) w') :
    wpList Tryd.prog ops Q (o :: rest) act w := by
  obtain ⟨i0, hi, hz0, hz1, hz2⟩ := info_parts info23
  subst hn hxs
  rcases hc with ⟨rfl, rfl, rfl⟩ | ⟨ad, rfl, hcell⟩
  · refine wpList_append_own_none hgd s x 22 ho base 29 i0 1 Tryd.underlying22 hi v n xs hs hown hx ?_
    obtain ⟨g, c, hv, hg, hnc, hgw, hcm⟩ := own_shape hown hnn
    rw [hv] at hown ⊢
    refine h g c w ?_ ⟨rfl, rfl, rfl, Nat.le_refl _, fun _ _ _ => rfl⟩ hnc hcm hg hgw
    have e : xs ++ cellsD [] = xs := List.append_nil _
    rw [e]; exact hown
  · refine wpList_append_own _ hgd s x 22 ho base 29 i0 (.int .u64 0) 1 8 Tryd.underlying22 hi hz0 hz1 hz2 rfl (by decide) v n xs hs hown ad l.length cap (cellsD l) hx (by rw [cellsD_len, Nat.mul_one]) ?_ (cellsD_one l) (by unfold maxLen; omega) hb hbase ?_
    · intro j u hu
      obtain ⟨hj, rfl⟩ := cellsD_at hu
      exact hcell j hj
    · intro v' w' ho' hg' hn'
      obtain ⟨g, c, hv, hg, hnc, hgw, hcm⟩ := own_shape ho' (fun e => hnn (hn'.1 e).1)
      rw [hv] at ho' ⊢
      exact h g c w' ho' hg' hnc hcm hg hgw
theorem fold_addD : ∀ (b : List Int) (s t : Int), 0 ≤ s → Dists b → b.foldl addD (addD s t) = addD s (b.foldl addD t)
  | [], _, _, _, _ => rfl
  | x :: r, s, t, hs, hb => by
    show r.foldl addD (addD (addD s t) x) = addD s (r.foldl addD (addD t x))
    rw [addD_assoc hs (hb x List.mem_cons_self).1]
    exact fold_addD r s (addD t x) hs (fun y hy => hb y (List.mem_cons_of_mem _ hy))
theorem addD_zero {s : Int} (h : s ≤ 18446744073709551615) : addD s 0 = s := by rw [addD_le_sum (by omega), Int.add_zero]
theorem sumD_append {a b : List Int} (ha : Dists a) (hb : Dists b) : sumD (a ++ b) = addD (sumD a) (sumD b) := by
  have h := sumD_bounds ha
  unfold sumD at *
  rw [List.foldl_append]
  have := fold_addD b (a.foldl addD 0) 0 h.1 hb
  rw [addD_zero h.2] at this
  exact this
theorem sumsD_append (a b : List Int) : (sumsD (a ++ b)).take a.length = sumsD a := by
  apply sumsD_ext
  · rw [List.length_take, sumsD_len, List.length_append]; omega
  · intro j hj
    have e : ((sumsD (a ++ b)).take a.length).getD j 0 = (sumsD (a ++ b)).getD j 0 := by simp [List.getD, hj]
    rw [e, sumsD_getD _ _ (by rw [List.length_append]; omega), List.take_append_of_le_length (show j + 1 ≤ a.length by omega)]
theorem leastAt_min (l : List Int) : ∀ k j, j < k → l.getD (leastAt l k) 0 ≤ l.getD j 0
  | 0, _, h => absurd h (by omega)
  | k + 1, j, h => by
    show l.getD (if l.getD k 0 < l.getD (leastAt l k) 0 then k else leastAt l k) 0 ≤ _
    by_cases hj : j = k
    · subst hj; split
      · exact Int.le_refl _
      · omega
    · have := leastAt_min l k j (by omega)
      split
      · omega
      · exact this
theorem leastAt_first (l : List Int) : ∀ k j, j < leastAt l k → l.getD (leastAt l k) 0 < l.getD j 0
  | 0, _, h => absurd h (by simp [leastAt])
  | k + 1, j, h => by
    unfold leastAt at h ⊢
    split at h
    · rename_i hc
      rw [if_pos hc]
      have := leastAt_min l k j h
      omega
    · rename_i hc
      rw [if_neg hc]
      exact leastAt_first l k j h
theorem came_on {w w' : World} {a : Option Addr} {cap : Nat} {l : List Int} (h : Came w a cap l) (hb : Below w.heap.size w w') : Came w' a cap l := by
  rcases h with h | ⟨ad, rfl, hc⟩
  · exact Or.inl h
  · exact Or.inr ⟨ad, rfl, fun j hj => (hb.cell (World.block_lt_of_cell? w _ (hc j hj))).trans (hc j hj)⟩
theorem row_cells {w : World} {g off : Nat} {l : List Int} (h : Row w (some ⟨g, off, none⟩) l) : ∀ j, j < l.length → w.cell? ⟨g, off + j, none⟩ = some (.int .u64 (l.getD j 0)) := by
  intro j hj
  rcases h with h | ⟨b, o, he, hc⟩
  · rw [h] at hj; exact absurd hj (by simp)
  · cases he; exact hc j hj
theorem same_at (a a' : Option Addr) (cap cap' n : Nat) (l : List Int) (w : World) (hn : l.length = n) (hlen : n ≤ 9223372036854775807) (hr : Row w a l) (hr' : Row w a' l) :
    Calls Tryd.prog 6 #[.slice a n cap, .slice a' n cap'] w fun e w' => e = .returned (.bool true) ∧ ∃ n, w' = w.drewN n := by
  subst hn; exact same_any a a' cap cap' l w hlen hr hr'
set_option maxHeartbeats 800000 in
theorem joins_long (a b : Option Addr) (ca cb n m : Nat) (w : World) (hlen : n * 8 ≤ 140737488351232) (hlen' : m * 8 ≤ 140737488351232) (h : 16384 < n + m) :
    Calls Tryd.prog 3 #[.slice a n ca, .slice b m cb] w fun e w' => e = .returned (.bool true) ∧ Below w.heap.size w w' := by
  have h1 : (16384 : Int) < (n : Int) + (m : Int) := by omega
  go_enter Tryd.func3, Tryd.ntmps3
  go_wp2_with fail
  refine (works_any _).mono ?_
  rintro e w1 ⟨rfl, hb1⟩
  go_wp2_with fail
  go_ret
  exact ⟨rfl, hb1⟩
set_option maxHeartbeats 1600000 in
theorem joins_some (a b : Option Addr) (ca cb : Nat) (la lb : List Int) (w : World) (hda : Dists la) (hdb : Dists lb) (hca : Came w a ca la) (hcb : Came w b cb lb) (hra : Row w a la) (hrb : Row w b lb) (hlen : la.length + lb.length ≤ 16384) (hpos : 0 < la.length + lb.length) :
    Calls Tryd.prog 3 #[.slice a la.length ca, .slice b lb.length cb] w fun e w' => e = .returned (.bool true) ∧ Below w.heap.size w w' := by
  obtain ⟨L, HL⟩ : ∃ L, Hid (la ++ lb = L) := ⟨_, rfl⟩
  have HN : Hid (la.length + lb.length = L.length) := (by rw [← HL.out, List.length_append] : la.length + lb.length = L.length)
  have n1 : L.length ≤ 16384 := by rw [← HN.out]; exact hlen
  have n2 : 0 < L.length := by rw [← HN.out]; exact hpos
  have n3 : la.length ≤ L.length := by rw [← HN.out]; omega
  have h1 : ¬ (16384 : Int) < (la.length : Int) + (lb.length : Int) := by omega
  go_enter Tryd.func3, Tryd.ntmps3
  go_wp2_with fail
  refine (works_any _).mono ?_
  rintro e w1 ⟨rfl, hb1⟩
  have ca1 := came_on hca hb1
  have cb1 := came_on hcb hb1
  have b2 : Below w1.heap.size w1 (w1.alloc (.cells #[] 29)) := (Below.refl _ _).alloc (Nat.le_refl _) _
  have ca2 := came_on ca1 b2
  have HA := Lib.hid (World.ownsRow_lit (base := w1.heap.size) (e := 29) (size := 1) w1 #[] 0 (Nat.le_refl _) (by decide) rfl)
  go_wp2_with (first
    | (at_builtin; refine append_came rfl (.tmp 23) (.tmp 24) rfl w1.heap.size (.slice (some ⟨w1.heap.size, 0, none⟩) 0 0) 0 [] rfl HA.out a ca la rfl ca2 (by omega) (by simp) (by simp) la.length (by omega) (cellsD la) rfl ?_; intro g1 c1 w2 hown1 hgrow1 hc1 hm1 hg1 hs1; have b3 := (b2.grown hgrow1 (by simp) (by intro k hk; cases hk; exact Nat.le_refl _)); have cb3 := came_on cb1 b3)
    | (at_builtin; refine append_came rfl (.tmp 25) (.tmp 26) rfl w1.heap.size (.slice (some ⟨g1, 0, none⟩) la.length c1) la.length (cellsD la) rfl hown1 b cb lb rfl cb3 (by omega) (by have := b3.size; omega) (by simp) L.length HN.out (cellsD L) (by rw [← HL.out]; unfold cellsD; rw [List.map_append]) ?_; intro g2 c2 w3 hown2 hgrow2 hc2 hm2 hg2 hs2))
  have b4 : Below w1.heap.size w1 w3 := b3.grown hgrow2 b3.size (by intro k hk; cases hk; exact hg1)
  have ra4 := (hra.on hb1).on b4
  have rb4 := (hrb.on hb1).on b4
  have rL4 : Row w3 (some ⟨g2, 0, none⟩) L := own_row hown2
  have s4 := b4.size
  have hdL : Dists L := by
    intro x hx
    rw [← HL.out] at hx
    rcases List.mem_append.1 hx with h | h
    · exact hda x h
    · exact hdb x h
  clear hown1 hown2 hgrow1 hgrow2 HA ca1 cb1 ca2 cb3 b2 b3 hca hcb hra hrb
  refine (sums_any a la ca _ hda (by omega) ra4).mono ?_
  rintro e w5 ⟨a5, c5, rfl, hown5, hb5⟩
  rw [show sumsR la = sumsD la from if_neg (by omega)] at hown5 ⊢
  rw [show sumsE la = 0 from if_neg (by omega), sumsD_len]
  have ra5 := ra4.on hb5
  have rb5 := rb4.on hb5
  have rL5 := rL4.on hb5
  have rx5 := hown5.row
  have s5 := hb5.size
  clear hown5 ra4 rb4 rL4
  go_wp2_with fail
  refine (sums_some g2 0 c2 L _ hdL n1 n2 (row_cells rL5)).mono ?_
  rintro e w6 ⟨rfl, hown6, hb6⟩
  have ra6 := ra5.on hb6
  have rb6 := rb5.on hb6
  have rL6 := rL5.on hb6
  have rx6 := rx5.on hb6
  have ry6 : Row w6 (some ⟨w5.heap.size, 0, none⟩) (sumsD la) := by
    refine Or.inr ⟨_, 0, rfl, fun j hj => ?_⟩
    rw [sumsD_len] at hj
    have hL : j < (sumsD L).length := by rw [sumsD_len]; omega
    rw [Nat.zero_add, hown6.cellAt j (by omega), cellsD_getD _ j hL]
    have e : sumsD la = (sumsD L).take la.length := by rw [← HL.out, sumsD_append]
    rw [e]
    simp [List.getD, hj]
  have s6 := hb6.size
  clear hown6 ra5 rb5 rL5 rx5
  go_wp2_with fail
  refine (same_at a5 (some ⟨w5.heap.size, 0, none⟩) c5 L.length la.length (sumsD la) _ (sumsD_len la) (by omega) rx6 ry6).mono ?_
  rintro e w7 ⟨rfl, n7, hw7⟩
  have b67 : Below w6.heap.size w6 w7 := by rw [hw7]; exact below_n _ _
  clear hw7
  have ra7 := ra6.on b67
  have rb7 := rb6.on b67
  have rL7 := rL6.on b67
  clear ra6 rb6 rL6 rx6 ry6
  obtain ⟨sa, HSA⟩ : ∃ s, Hid (sumD la = s) := ⟨_, rfl⟩
  obtain ⟨sb, HSB⟩ : ∃ s, Hid (sumD lb = s) := ⟨_, rfl⟩
  have ba := sumD_bounds hda
  have bb := sumD_bounds hdb
  rw [HSA.out] at ba
  rw [HSB.out] at bb
  have HSL : Hid (sumD L = addD sa sb) := (by rw [← HL.out, sumD_append hda hdb, HSA.out, HSB.out] : sumD L = addD sa sb)
  go_wp2_with fail
  refine (sum_any (some ⟨g2, 0, none⟩) L c2 _ hdL (by omega) rL7).mono ?_
  rintro e w8 ⟨rfl, rfl⟩
  rw [HSL.out]
  go_wp2_with fail
  refine (sum_any a la ca _ hda (by omega) ra7).mono ?_
  rintro e w8 ⟨rfl, rfl⟩
  rw [HSA.out]
  go_wp2_with fail
  refine (sum_any b lb cb _ hdb (by omega) rb7).mono ?_
  rintro e w8 ⟨rfl, rfl⟩
  rw [HSB.out]
  go_wp2_with fail
  refine (add_any sa sb ba.1 ba.2 bb.1 bb.2 _).mono ?_
  rintro e w8 ⟨rfl, rfl⟩
  go_wp2_with fail
  refine (least_some g2 0 c2 L _ n1 n2 (row_cells rL7)).mono ?_
  rintro e w9 ⟨rfl, n9, hw9⟩
  have b89 : Below w8.heap.size w8 w9 := by rw [hw9]; exact below_n _ _
  clear hw9
  have rL9 := row_cells (rL7.on b89)
  have hm := leastAt_lt L L.length n2
  have HMIN := Lib.hid (fun j (hj : j < L.length) => leastAt_min L L.length j hj)
  have HFST := Lib.hid (fun j (hj : j < leastAt L L.length) => leastAt_first L L.length j hj)
  have cm := rL9 _ hm
  rw [Nat.zero_add] at cm
  have HR := Lib.hid rL9
  clear rL9 ra7 rb7 rL7
  generalize leastAt L L.length = m at *
  obtain ⟨d, HD⟩ : ∃ d, Hid (L.getD m 0 = d) := ⟨_, rfl⟩
  rw [HD.out] at cm HMIN HFST ⊢
  have hne : ((L.length : Int) == 0) = false := beq_eq_false_iff_ne.2 (by omega)
  go_wp2_with fail
  go_loop [83] (fun i => ∃ k : Nat, k ≤ L.length ∧ i = .int .i64 k) (fun i => L.length - (intOf i).toNat)
  case atStart => exact ⟨0, Nat.zero_le _, rfl⟩
  case round =>
    obtain ⟨k, hk, rfl⟩ := hrel
    by_cases hlt : k < L.length
    · have ck := HR.out k hlt
      rw [Nat.zero_add] at ck
      have hz1 := HMIN.out k hlt
      have hz2 : L.getD k 0 = d → ¬ k < m := fun e hkm => by
        have := HFST.out k hkm
        rw [e] at this
        omega
      generalize L.getD k 0 = z at *
      by_cases hzd : z = d
      · have hkm : ¬ k < m := hz2 hzd
        subst hzd
        clear hz2
        have hnl : ¬ z < z := by omega
        go_wp2_with fail
        exact ⟨⟨k + 1, by omega, by go_num⟩, by simp [intOf]; omega⟩
      · have hb : (z == d) = false := beq_eq_false_iff_ne.2 hzd
        clear hz2
        have hnl : ¬ z < d := by omega
        go_wp2_with fail
        exact ⟨⟨k + 1, by omega, by go_num⟩, by simp [intOf]; omega⟩
    · go_wp2_with fail
      go_ret
      have s1 := hb1.size
      have s67 := b67.size
      have s89 := b89.size
      exact ⟨rfl, ((((hb1.trans (b4.mono s1)).trans (hb5.mono (by omega))).trans (hb6.mono (by omega))).trans (b67.mono (by omega))).trans (b89.mono (by omega))⟩
set_option maxHeartbeats 800000 in
theorem joins_none (a b : Option Addr) (ca cb : Nat) (w : World) (hca : Came w a ca []) (hcb : Came w b cb []) :
    Calls Tryd.prog 3 #[.slice a 0 ca, .slice b 0 cb] w fun e w' => e = .returned (.bool true) ∧ Below w.heap.size w w' := by
  go_enter Tryd.func3, Tryd.ntmps3
  go_wp2_with fail
  refine (works_any _).mono ?_
  rintro e w1 ⟨rfl, hb1⟩
  have ca1 := came_on hca hb1
  have cb1 := came_on hcb hb1
  have b2 : Below w1.heap.size w1 (w1.alloc (.cells #[] 29)) := (Below.refl _ _).alloc (Nat.le_refl _) _
  have ca2 := came_on ca1 b2
  have HA := Lib.hid (World.ownsRow_lit (base := w1.heap.size) (e := 29) (size := 1) w1 #[] 0 (Nat.le_refl _) (by decide) rfl)
  go_wp2_with (first
    | (at_builtin; refine append_came rfl (.tmp 23) (.tmp 24) rfl w1.heap.size (.slice (some ⟨w1.heap.size, 0, none⟩) 0 0) 0 [] rfl HA.out a ca [] rfl ca2 (by simp) (by simp) (by simp) 0 rfl [] rfl ?_; intro g1 c1 w2 hown1 hgrow1 hc1 hm1 hg1 hs1; have b3 := (b2.grown hgrow1 (by simp) (by intro k hk; cases hk; exact Nat.le_refl _)); have cb3 := came_on cb1 b3)
    | (at_builtin; refine append_came rfl (.tmp 25) (.tmp 26) rfl w1.heap.size (.slice (some ⟨g1, 0, none⟩) 0 c1) 0 [] rfl hown1 b cb [] rfl cb3 (by simp) (by have := b3.size; omega) (by simp) 0 rfl [] rfl ?_; intro g2 c2 w3 hown2 hgrow2 hc2 hm2 hg2 hs2))
  have b4 : Below w1.heap.size w1 w3 := b3.grown hgrow2 b3.size (by intro k hk; cases hk; exact hg1)
  have s4 := b4.size
  clear hown1 hown2 hgrow1 hgrow2 HA ca1 cb1 ca2 cb3 b2 b3 hca hcb
  refine (sums_none a ca _).mono ?_
  rintro e w5 ⟨rfl, hb5⟩
  have s5 := hb5.size
  go_wp2_with fail
  refine (sums_none (some ⟨g2, 0, none⟩) c2 _).mono ?_
  rintro e w6 ⟨rfl, hb6⟩
  have s6 := hb6.size
  go_wp2_with fail
  refine (same_empty (some ⟨w3.heap.size, 0, none⟩) (some ⟨w5.heap.size, 0, none⟩) 0 0 _).mono ?_
  rintro e w7 ⟨rfl, rfl⟩
  go_wp2_with fail
  refine (sum_any (some ⟨g2, 0, none⟩) [] c2 _ (by intro x hx; cases hx) (by simp) (Or.inl rfl)).mono ?_
  rintro e w8 ⟨rfl, rfl⟩
  go_wp2_with fail
  refine (sum_any a [] ca _ (by intro x hx; cases hx) (by simp) (Or.inl rfl)).mono ?_
  rintro e w8 ⟨rfl, rfl⟩
  go_wp2_with fail
  refine (sum_any b [] cb _ (by intro x hx; cases hx) (by simp) (Or.inl rfl)).mono ?_
  rintro e w8 ⟨rfl, rfl⟩
  rw [sumD_nil]
  go_wp2_with fail
  refine (add_any 0 0 (by omega) (by omega) (by omega) (by omega) _).mono ?_
  rintro e w8 ⟨rfl, rfl⟩
  rw [show addD 0 0 = 0 by decide]
  go_wp2_with fail
  refine (least_none (some ⟨g2, 0, none⟩) c2 _).mono ?_
  rintro e w9 ⟨rfl, rfl⟩
  go_wp2_with fail
  go_ret
  have s1 := hb1.size
  exact ⟨rfl, ((hb1.trans (b4.mono s1)).trans (hb5.mono (by omega))).trans (hb6.mono (by omega))⟩
theorem law_joins (a b : Option Addr) (ca cb : Nat) (la lb : List Int) (w : World) (hda : Dists la) (hdb : Dists lb) (hca : Came w a ca la) (hcb : Came w b cb lb) (hra : Row w a la) (hrb : Row w b lb) (hla : la.length * 8 ≤ 140737488351232) (hlb : lb.length * 8 ≤ 140737488351232) :
    Calls Tryd.prog 3 #[.slice a la.length ca, .slice b lb.length cb] w fun e w' => e = .returned (.bool true) ∧ Below w.heap.size w w' := by
  by_cases h : 16384 < la.length + lb.length
  · exact joins_long a b ca cb _ _ w hla hlb h
  · by_cases h0 : 0 < la.length + lb.length
    · exact joins_some a b ca cb la lb w hda hdb hca hcb hra hrb (by omega) h0
    · have e1 : la = [] := List.eq_nil_of_length_eq_zero (by omega)
      have e2 : lb = [] := List.eq_nil_of_length_eq_zero (by omega)
      subst e1 e2
      exact joins_none a b ca cb w hca hcb
end Go.Proofs.YtcpbnmboeafloabDoor
