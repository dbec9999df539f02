/-
  Contracts of heap.emptyQueue, heap.New, and of the law's works and among.
-/
import Derived.Test.YtbahlbdnibmjfaaHeap
import Derived.Laws.EntriesVeiled
namespace Go.Proofs.Ytbahlbdnibmjfaa
open Go.RowKit
theorem info3 : (Try.prog.info? 3).map (fun i => (i.zero, i.size, i.bytes)) = some (some (.int .i64 0), 1, 8) := by kernel_rfl
theorem made_i64 (n : Nat) : (madeCells (Value.int .i64 0).cells (n * 1)).toList = cellsI (List.replicate n 0) := by
  show (madeCells #[Value.int .i64 0] (n * 1)).toList = _
  rw [toList_madeCells_one, Nat.mul_one]
  unfold cellsI
  simp
theorem row_made {w : World} {base g n : Nat} {e : TypeId} {xs : List Value} (h : w.ownsRow base e 1 (.slice (some ⟨g, 0, none⟩) n n) n xs) : w.heap[g]? = some (.cells xs.toArray e (0, 0)) := by
  rcases h.2 with ⟨h', _⟩ | ⟨g', c', cur, h', _, h3, _, _, h6, h7⟩
  · cases h'
  · cases h'
    rw [h3, ← h7]
    rw [List.take_of_length_le (by simp; omega)]
set_option maxHeartbeats 800000 in
theorem empty_any (n : Nat) (hn : n ≤ 16384) (w : World) :
    Calls Try.prog 20 #[.int .i64 n, .func (.func 21) #[] #[]] w fun e w' => ∃ p, e = .returned (.agg #[.slice none 0 0, .slice (some ⟨p, 0, none⟩) n n, .func (.func 21) #[] #[]]) ∧ w'.heap[p]? = some (.cells (cellsI (List.replicate n 0)).toArray 3 (0, 0)) ∧ w.heap.size ≤ p ∧ Below w.heap.size w w' := by
  obtain ⟨i0, hi, hz0, hz1, hz2⟩ := info_parts info3
  have HM := Lib.hid (made_i64 n)
  go_enter Try.func20, Try.ntmps20
  go_wp2_with (at_make; refine wpList_make_full _ rfl (.tmp 5) (.tmp 5) 51 rfl 0 3 i0 (.int .i64 0) 1 Try.underlying51 hi hz0 hz1 .i64 .i64 n n n rfl rfl rfl rfl (by rw [hz2]; omega) (by unfold maxLen; omega) (Nat.zero_le _) ?_; intro w1 hown1 hgrow1; rw [HM.out] at hown1; have hrow := row_made hown1; have hb1 := ((Below.refl w.heap.size w).alloc (Nat.le_refl _) _).grown hgrow1 (by simp) (by intro k hk; cases hk); have hd1 := (hgrow1.block w.heap.size (by simp) (by simp)).trans (heap_top w _); obtain ⟨⟨c0, c1, c2⟩, f0, f1, f2⟩ := cells3 hd1)
  rw [show (w.alloc (.cells #[.slice none 0 0, .slice none 0 0, .nilFunc] 54)).heap.size = w.heap.size + 1 by simp] at hrow
  go_wp2_with fail
  refine bodyPost_ret (v := .agg #[.slice none 0 0, .slice (some ⟨w.heap.size + 1, 0, none⟩) n n, .func (.func 21) #[] #[]]) (by simp [results, Try.results20, go_sem, c0, c1, c2]) rfl ⟨w.heap.size + 1, rfl, ?_, by omega, ?_⟩
  · rw [heap_setCell_other _ _ _ _ (by simp), heap_setCell_other _ _ _ _ (by simp), heap_setCell_other _ _ _ _ (by simp)]
    exact hrow
  · exact ((hb1.setCell (by simp) _).setCell (by simp) _).setCell (by simp) _
/-- What New tells. -/
def newE (n : Int) : Int := if 0 ≤ n ∧ n ≤ 16384 then 0 else 1
set_option maxHeartbeats 800000 in
theorem New_no (n : Int) (hn : ¬ (0 ≤ n ∧ n ≤ 16384)) (w : World) :
    Calls Try.prog 8 #[.int .i64 n] w fun e w' => e = .returned (.tuple #[.pointer none, .int .i64 1]) ∧ w' = w := by
  by_cases h0 : n < 0
  · go_enter Try.func8, Try.ntmps8
    go_wp2_with fail
    go_ret2
    exact ⟨rfl, rfl⟩
  · have h1 : 16384 < n := by omega
    clear hn
    go_enter Try.func8, Try.ntmps8
    go_wp2_with fail
    go_ret2
    exact ⟨rfl, rfl⟩
set_option maxHeartbeats 800000 in
theorem New_any (n : Nat) (hn : n ≤ 16384) (w : World) :
    Calls Try.prog 8 #[.int .i64 n] w fun e w' => ∃ h D, e = .returned (.tuple #[.pointer (some ⟨h, 0, none⟩), .int .i64 0]) ∧ HR w' h n (fun _ => none) D ∧ (∀ k, D k → w.heap.size ≤ k) ∧ Below w.heap.size w w' := by
  have HEM := Lib.hid (empty_any n hn w)
  have h1 : ¬ (16384 : Int) < n := by omega
  go_enter Try.func8, Try.ntmps8
  go_wp2_with fail
  refine HEM.out.mono ?_
  rintro e w1 ⟨p, rfl, hp, hps, hb⟩
  go_wp2_with fail
  go_ret2
  refine ⟨w1.heap.size, Dof w1.heap.size p (.slice none 0 0), rfl, ⟨p, .slice none 0 0, [], List.replicate n 0, ⟨heap_top _ _, ?_, (Below.heap_alloc _ _ _ (lt_of_block hp)).trans hp, ?_, by simp [Value.ownBlock], by simp [Value.ownBlock], by simp, hn⟩, WF.empty n, rfl⟩, ?_, hb.alloc hb.size _⟩
  · exact World.ownsRow_nil _ _ _ _
  · have := lt_of_block hp; omega
  · rintro k (rfl | rfl | hk)
    · exact hb.size
    · exact hps
    · cases hk
theorem HRto.comp {w w1 w2 : World} {h n : Nat} {T2 : Nat → Option Int} {D D1 : Nat → Prop} (hd : ∀ k, D1 k → D k ∨ w.heap.size ≤ k) (f : Fr D w w1) (b : HRto w1 w2 h n T2 D1) : HRto w w2 h n T2 D := by
  obtain ⟨D2, r, hd2, f2⟩ := b
  refine ⟨D2, r, fun k hk => ?_, f.trans f2 hd⟩
  rcases hd2 k hk with h' | h'
  · exact hd k h'
  · exact Or.inr (Nat.le_trans f.size h')
theorem wt_low1 : lowB 5 (fun _ => none) 3 7 = true := rfl
theorem wt_low2 : lowB 5 (upd (fun _ => none) 3 (some 7)) 1 7 = true := rfl
theorem wt_low3 : lowB 5 (upd (upd (fun _ => none) 3 (some 7)) 1 (some 7)) 3 9 = false := rfl
theorem wt_low4 : lowB 5 (upd (upd (fun _ => none) 3 (some 7)) 1 (some 7)) 3 2 = true := rfl
theorem wt1 : lowTT 5 (fun _ => none) 3 7 = upd (fun _ => none) 3 (some 7) := rfl
theorem wt2 : lowTT 5 (upd (fun _ => none) 3 (some 7)) 1 7 = upd (upd (fun _ => none) 3 (some 7)) 1 (some 7) := rfl
theorem wt3 : lowTT 5 (upd (upd (fun _ => none) 3 (some 7)) 1 (some 7)) 3 9 = upd (upd (fun _ => none) 3 (some 7)) 1 (some 7) := rfl
theorem wt4 : lowTT 5 (upd (upd (fun _ => none) 3 (some 7)) 1 (some 7)) 3 2 = upd (upd (upd (fun _ => none) 3 (some 7)) 1 (some 7)) 3 (some 2) := rfl
theorem wt_top : TopIs 5 (upd (upd (upd (fun _ => none) 3 (some 7)) 1 (some 7)) 3 (some 2)) 3 2 0 := by
  refine Or.inl ⟨rfl, rfl, by omega, fun y k' hy => ?_⟩
  unfold upd at hy
  split at hy
  · injection hy with hy; omega
  · split at hy
    · injection hy with hy; omega
    · cases hy
theorem wt_cnt : cnt (upd (upd (upd (upd (fun _ => none) 3 (some 7)) 1 (some 7)) 3 (some 2)) 3 none) 5 = 1 := by decide
set_option maxHeartbeats 1600000 in
theorem works_any (w : World) : Calls Try.prog 13 #[] w fun e w' => e = .returned (.bool true) ∧ Below w.heap.size w w' := by
  have HNW := Lib.hid (New_any 5 (by omega) w)
  go_enter Try.func13, Try.ntmps13
  go_wp2_with fail
  refine HNW.out.mono ?_
  rintro e w1 ⟨h, D, rfl, r1, hD1, hb1⟩
  have H1 := Lib.hid (Lower_any r1 3 7)
  rw [wt_low1, wt1] at H1
  clear r1
  go_wp2_with fail
  refine H1.out.mono ?_
  rintro e w2 ⟨rfl, D2, r2, hd2, f2⟩
  have H2 := Lib.hid (Lower_any r2 1 7)
  rw [wt_low2, wt2] at H2
  clear r2 H1
  go_wp2_with fail
  refine H2.out.mono ?_
  rintro e w3 ⟨rfl, D3, r3, hd3, f3⟩
  have H3 := Lib.hid (Lower_any r3 3 9)
  rw [wt_low3, wt3] at H3
  clear r3 H2
  go_wp2_with fail
  refine H3.out.mono ?_
  rintro e w4 ⟨rfl, D4, r4, hd4, f4⟩
  have H4 := Lib.hid (Lower_any r4 3 2)
  rw [wt_low4, wt4] at H4
  clear r4 H3
  go_wp2_with fail
  refine H4.out.mono ?_
  rintro e w5 ⟨rfl, D5, r5, hd5, f5⟩
  have H5 := Lib.hid (Pop_any r5)
  clear r5 H4
  go_wp2_with fail
  refine H5.out.mono ?_
  rintro e w6 ⟨x, k, er, rfl, ht, D6, r6, hd6, f6⟩
  obtain ⟨rfl, rfl, rfl⟩ := ht.unique wt_top
  rw [if_pos rfl] at r6
  have H6 := Lib.hid (Len_any r6)
  rw [wt_cnt] at H6
  clear r6 H5
  go_wp2_with fail
  refine H6.out.mono ?_
  rintro e w7 ⟨rfl, rfl⟩
  go_wp2_with fail
  go_ret
  have b2 : Below w.heap.size w w2 := hb1.trans (f2.below hb1.size hD1)
  have e2 : ∀ k, D2 k → w.heap.size ≤ k := fun k hk => by rcases hd2 k hk with h' | h'; exact hD1 k h'; exact Nat.le_trans hb1.size h'
  have b3 : Below w.heap.size w w3 := b2.trans (f3.below b2.size e2)
  have e3 : ∀ k, D3 k → w.heap.size ≤ k := fun k hk => by rcases hd3 k hk with h' | h'; exact e2 k h'; exact Nat.le_trans b2.size h'
  have b4 : Below w.heap.size w w4 := b3.trans (f4.below b3.size e3)
  have e4 : ∀ k, D4 k → w.heap.size ≤ k := fun k hk => by rcases hd4 k hk with h' | h'; exact e3 k h'; exact Nat.le_trans b3.size h'
  have b5 : Below w.heap.size w w5 := b4.trans (f5.below b4.size e4)
  have e5 : ∀ k, D5 k → w.heap.size ≤ k := fun k hk => by rcases hd5 k hk with h' | h'; exact e4 k h'; exact Nat.le_trans b4.size h'
  exact ⟨rfl, b5.trans (f6.below b5.size e5)⟩
/-- The law's among. -/
def amg (x : Int) (n : Nat) : Int := x % n
theorem tmod_bd (x : Int) (n : Nat) (hn : 0 < n) : -(n : Int) < x.tmod n ∧ x.tmod n < n := by
  have h1 := Int.tmod_lt_of_pos x (show (0 : Int) < n by omega)
  have h2 := Int.tmod_lt_of_pos (-x) (show (0 : Int) < n by omega)
  rw [Int.neg_tmod] at h2
  omega
theorem tmod_amg (x : Int) (n : Nat) : (x.tmod n + n) % (n : Int) = amg x n := by
  unfold amg
  rw [Int.add_emod_right]
  have h := Int.mul_tdiv_add_tmod x n
  conv => rhs; rw [← h]
  rw [Int.mul_add_emod_self_left]
set_option maxHeartbeats 400000 in
theorem among_any (x : Int) (n : Nat) (hn : 0 < n) (hn2 : n ≤ 1000) (w : World) :
    Calls Try.prog 14 #[.int .i64 x, .int .i64 n] w fun e w' => e = .returned (.int .i64 (amg x n)) ∧ w' = w := by
  have h1 := tmod_bd x n hn
  have H2 := Lib.hid (tmod_amg x n)
  have hz : ((n : Int) == 0) = false := by simp; omega
  go_enter Try.func14, Try.ntmps14
  go_wp2_with fail
  go_ret
  rw [← H2.out]
  exact ⟨rfl, rfl⟩
end Go.Proofs.Ytbahlbdnibmjfaa
