/-
  Contract of the reference's Tidy, at numbers that are given.
-/
import Derived.Test.YtpmjbeiclmllmaaGreatTRTidy
namespace Go.Proofs.YtpmjbeiclmllmaaGreat.T3
open Go.RowKit
set_option maxHeartbeats 1600000 in
theorem rtidyI_any (av : Option Addr) (n cap : Nat) (L : List Int) (R : Nat → Nat) (w : World) (hn : n ≤ 1024) (hRT : RT R) (hLl : L.length = n) (hS : ∀ u v, u < n → v < n → (L.getD u 0 = L.getD v 0 ↔ R u = R v)) (ho : Ints w av L) :
    Calls Tryz.prog 115 #[.slice av n cap] w fun e w' => e = .returned (.slice (some ⟨w.heap.size, 0, none⟩) n n) ∧ OwnL w' w.heap.size n (labs R n) ∧ Below w.heap.size w w' := by
  obtain ⟨i0, hi, hz0, hz1, hz2⟩ := info_parts info3
  obtain ⟨g, o0, hix⟩ := ho.get
  have HIX := Lib.hid hix
  clear hix ho
  have HS := Lib.hid hS
  have HRT := Lib.hid hRT
  have HLl := Lib.hid hLl
  clear hS hRT hLl
  go_enter Tryz.func115, Tryz.ntmps115
  go_wp2_with (at_make; refine wpList_make_full _ rfl (.tmp 8) (.tmp 8) 25 rfl w.heap.size 3 i0 (.int .i64 0) 1 Tryz.underlying25 hi hz0 hz1 .i64 .i64 n n n rfl rfl rfl rfl (by rw [hz2]; omega) (by unfold maxLen; omega) (Nat.le_refl _) ?_; intro w1 hown1 hgrow1)
  have hown0 : OwnZ w1 w.heap.size n (List.replicate n 0) := by
    have e : (madeCells (Value.int .i64 0).cells (n * 1)).toList = cellsI (List.replicate n 0) := by
      show (madeCells #[Value.int .i64 0] (n * 1)).toList = _
      rw [toList_madeCells_one, Nat.mul_one]
      unfold cellsI
      simp
    rw [e] at hown1
    exact hown1
  have hb1 : Below w.heap.size w w1 := (Below.refl _ _).grown hgrow1 (Nat.le_refl _) (by intro k hk; cases hk)
  clear hown1 hgrow1
  go_loopw [4, 5] (fun t i wr => ∃ (k : Nat) (X : List Int), k ≤ n ∧ i = .int .i64 (k : Int) ∧ t = .int .i64 ((cnt R k : Nat) : Int) ∧ Hid (X.length = n) ∧ Hid (∀ j, j < k → X.getD j 0 = ((lab R j : Nat) : Int)) ∧ OwnZ wr w.heap.size n X ∧ Below w.heap.size w wr) (fun _ i _ => n - (intOf i).toNat)
  case atStart => exact ⟨0, List.replicate n 0, Nat.zero_le _, rfl, rfl, by show _ = _; simp, by intro j hj; omega, hown0, hb1⟩
  case round =>
    obtain ⟨k, X, hk, rfl, rfl, HX, HJ, hown, hbel⟩ := hrel
    clear hown0 hb1
    have hck := cnt_le R k
    by_cases hlt : k < n
    · obtain ⟨rfl, hg, hat⟩ := HIX.out (by rw [HLl.out]; omega)
      have HAT := Lib.hid hat
      clear hat
      have cx := hown.cell HX.out k hlt
      have fx := hown.free k
      have hXl : k < X.length := by rw [HX.out]; exact hlt
      have hst := hown.set k (-1)
      have HJ1 : Hid (∀ j, j < k → (X.set k (-1)).getD j 0 = ((lab R j : Nat) : Int)) := by
        show ∀ j, _
        intro j hj
        rw [getDI_set _ _ _ _ hXl, if_neg (by omega)]
        exact HJ.out j hj
      have HK1 : Hid ((X.set k (-1)).getD k 0 = -1) := by show _ = _; rw [getDI_set _ _ _ _ hXl, if_pos rfl]
      have HX1 : Hid ((X.set k (-1)).length = n) := by show _ = _; rw [List.length_set]; exact HX.out
      have hb2 := hbel.setCell (p := ⟨w.heap.size, k, none⟩) (Nat.le_refl _) (.int .i64 (-1))
      generalize X.getD k 0 = x0 at *
      generalize X.set k (-1) = X1 at *
      obtain ⟨c, HC⟩ := named (cnt R k)
      rw [HC.out] at hck ⊢
      clear HJ HX hXl
      go_wp2_with fail
      go_loopw [6] (fun i wr => ∃ (u : Nat) (Y : List Int), u ≤ k ∧ i = .int .i64 (u : Int) ∧ Hid (Y.length = n) ∧ Hid (∀ j, j < k → Y.getD j 0 = ((lab R j : Nat) : Int)) ∧ Hid ((Y.getD k 0 = -1 ∧ ∀ j, j < u → L.getD j 0 ≠ L.getD k 0) ∨ (Y.getD k 0 = ((lab R k : Nat) : Int) ∧ R k ≠ k)) ∧ OwnZ wr w.heap.size n Y ∧ Below w.heap.size w wr) (fun i _ => k - (intOf i).toNat)
      case atStart => exact ⟨0, X1, Nat.zero_le _, rfl, HX1, HJ1, Or.inl ⟨HK1.out, by intro j hj; omega⟩, hst, hb2⟩
      case round =>
        obtain ⟨u, Y, hu, rfl, HY, HYJ, HALT, ho3, hb3⟩ := hrel
        clear cx fx hst hb2 HJ1 HK1 HX1 hown hbel
        have ck := ho3.cell HY.out k hlt
        have fk := ho3.free k
        have hYl : k < Y.length := by rw [HY.out]; exact hlt
        rcases HALT.out with ⟨e1, e2⟩ | ⟨e1, e2⟩
        · rw [e1] at ck
          by_cases huk : u < k
          · have lu := (hb3.cell (p := ⟨g, o0 + u, none⟩) hg).trans (HAT.out u (by rw [HLl.out]; omega))
            have lk := (hb3.cell (p := ⟨g, o0 + k, none⟩) hg).trans (HAT.out k (by rw [HLl.out]; exact hlt))
            have cu := ho3.cell HY.out u (by omega)
            rw [HYJ.out u huk] at cu
            by_cases hq : L.getD u 0 = L.getD k 0
            · rw [hq] at lu
              have hR := (HS.out u k (by omega) hlt).1 hq
              have HNE : Hid (R k ≠ k) := by
                show _ ≠ _
                intro h
                have := HRT.out.rle u
                omega
              have HLB : Hid (lab R k = lab R u) := by show _ = _; unfold lab; rw [hR]
              have hst := ho3.set k ((lab R u : Nat) : Int)
              have HJ2 : Hid (∀ j, j < k → (Y.set k ((lab R u : Nat) : Int)).getD j 0 = ((lab R j : Nat) : Int)) := by
                show ∀ j, _
                intro j hj
                rw [getDI_set _ _ _ _ hYl, if_neg (by omega)]
                exact HYJ.out j hj
              have HK2 : Hid ((Y.set k ((lab R u : Nat) : Int)).getD k 0 = ((lab R k : Nat) : Int)) := by show _ = _; rw [getDI_set _ _ _ _ hYl, if_pos rfl, HLB.out]
              have HX2 : Hid ((Y.set k ((lab R u : Nat) : Int)).length = n) := by show _ = _; rw [List.length_set]; exact HY.out
              clear e1 e2 hq hR
              generalize lab R u = z at *
              generalize L.getD k 0 = y at *
              go_wp2_with fail
              go_quiet (fail)
              go_wp2_with fail
              exact ⟨⟨u + 1, _, by omega, by go_num, HX2, HJ2, Or.inr ⟨HK2.out, HNE.out⟩, OwnZ.set (w := wr.drewN nq) (show OwnZ (wr.drewN nq) _ _ _ from ho3) k _, (hb3.trans (below_drewN _ _ _)).setCell (Nat.le_refl _) _⟩, by simp [intOf]; omega⟩
            · have hq' : (L.getD u 0 == L.getD k 0) = false := beq_eq_false_iff_ne.2 hq
              have HE2 : Hid (∀ j, j < u + 1 → L.getD j 0 ≠ L.getD k 0) := by
                show ∀ j, _
                intro j hj
                by_cases e : j = u
                · rw [e]; exact hq
                · exact e2 j (by omega)
              clear e2 hq
              have E1 := Lib.hid e1
              clear e1
              generalize L.getD u 0 = y1 at *
              generalize L.getD k 0 = y2 at *
              generalize lab R u = z at *
              go_wp2_with fail
              go_quiet (fail)
              go_wp2_with fail
              exact ⟨⟨u + 1, Y, by omega, by go_num, HY, HYJ, Or.inl ⟨E1.out, HE2.out⟩, ho3, hb3.trans (below_drewN _ _ _)⟩, by simp [intOf]; omega⟩
          · have hRk : R k = k := by
              rcases Nat.lt_or_ge (R k) k with h | h
              · exact absurd ((HS.out (R k) k (by omega) hlt).2 (HRT.out.rr k)) (e2 (R k) (by omega))
              · have := HRT.out.rle k
                omega
            have HE2 : Hid (cnt R (k + 1) = c + 1) := by show _ = _; rw [cnt, if_pos hRk, HC.out]
            have HLB : Hid (lab R k = c) := by show _ = _; unfold lab; rw [hRk, HC.out]
            have hst := ho3.set k (c : Int)
            have HJ2 : Hid (∀ j, j < k + 1 → (Y.set k (c : Int)).getD j 0 = ((lab R j : Nat) : Int)) := by
              show ∀ j, _
              intro j hj
              rw [getDI_set _ _ _ _ hYl]
              split
              · rename_i e; rw [e, HLB.out]
              · exact HYJ.out j (by omega)
            have HX2 : Hid ((Y.set k (c : Int)).length = n) := by show _ = _; rw [List.length_set]; exact HY.out
            clear e1 e2 hRk
            go_wp2_with fail
            exact ⟨⟨k + 1, _, by omega, by go_num, by rw [HE2.out]; go_num, HX2, HJ2, hst, hb3.setCell (Nat.le_refl _) _⟩, by simp [intOf]; omega⟩
        · have HE2 : Hid (cnt R (k + 1) = c) := by show _ = _; rw [cnt, if_neg e2, HC.out]
          have HJ2 : Hid (∀ j, j < k + 1 → Y.getD j 0 = ((lab R j : Nat) : Int)) := by
            show ∀ j, _
            intro j hj
            by_cases e : j = k
            · rw [e, e1]
            · exact HYJ.out j (by omega)
          rw [e1] at ck
          have E1 := Lib.hid e1
          clear e1 e2
          generalize lab R k = z at *
          have hz0 : ¬ ((z : Nat) : Int) < 0 := by omega
          by_cases huk : u < k
          · go_wp2_with fail
            exact ⟨⟨k + 1, Y, by omega, by go_num, by rw [HE2.out], HY, HJ2, ho3, hb3⟩, by simp [intOf]; omega⟩
          · go_wp2_with fail
            exact ⟨⟨k + 1, Y, by omega, by go_num, by rw [HE2.out], HY, HJ2, ho3, hb3⟩, by simp [intOf]; omega⟩
    · have hX : X = ints (labs R n) := ext_labs HX.out (fun j hj => HJ.out j (by omega))
      rw [hX] at hown
      clear hX
      go_wp2_with fail
      go_ret
      exact ⟨rfl, hown, hbel⟩
end Go.Proofs.YtpmjbeiclmllmaaGreat.T3
