/-
  Contracts of heap.emptyQueue, heap.New, and of the law's works and among.
-/
import Derived.Test.YtgkpmcpkobphpaaNHHeap
import Derived.Laws.EntriesVeiled
namespace Go.Proofs.Ytgkpmcpkobphpaa.N5.Hp
open Go.RowKit
theorem info3 : (Try.prog.info? 3).map (fun i => (i.zero, i.size, i.bytes)) = some (some (.int .i64 0), 1, 8) := by kernel_rfl
theorem made_i64 (n : Nat) : (madeCells (Value.int .i64 0).cells (n * 1)).toList = cellsI (List.replicate n 0) := by
  show (madeCells #[Value.int .i64 0] (n * 1)).toList = _
  rw [toList_madeCells_one, Nat.mul_one]
  unfold cellsI
  simp
theorem row_made {w : World} {base g n : Nat} {e : TypeId} {xs : List Value} (h : w.ownsRow base e 1 (.slice (some ⟨g, 0, none⟩) n n) n xs) : w.heap[g]? = some (.cells xs.toArray e (0, 0)) := by
  rcases h.2 with ⟨h', _⟩ | ⟨g', c', cur, h', _, h3, _, _, h6, h7⟩
  · cases h'
  · cases h'
    rw [h3, ← h7]
    rw [List.take_of_length_le (by simp; omega)]
set_option maxRecDepth 100000 in
set_option maxHeartbeats 800000 in
theorem empty_any (n : Nat) (hn : n ≤ 16384) (w : World) :
    Calls Try.prog 68 #[.int .i64 n, .func (.func 69) #[] #[]] w fun e w' => ∃ p, e = .returned (.agg #[.slice none 0 0, .slice (some ⟨p, 0, none⟩) n n, .func (.func 69) #[] #[]]) ∧ w'.heap[p]? = some (.cells (cellsI (List.replicate n 0)).toArray 3 (0, 0)) ∧ w.heap.size ≤ p ∧ Below w.heap.size w w' := by
  obtain ⟨i0, hi, hz0, hz1, hz2⟩ := info_parts info3
  have HM := Lib.hid (made_i64 n)
  go_enter Try.func68, Try.ntmps68
  go_wp2_with (at_make; refine wpList_make_full _ rfl (.tmp 5) (.tmp 5) 28 rfl 0 3 i0 (.int .i64 0) 1 Try.underlying28 hi hz0 hz1 .i64 .i64 n n n rfl rfl rfl rfl (by rw [hz2]; omega) (by unfold maxLen; omega) (Nat.zero_le _) ?_; intro w1 hown1 hgrow1; rw [HM.out] at hown1; have hrow := row_made hown1; have hb1 := ((Below.refl w.heap.size w).alloc (Nat.le_refl _) _).grown hgrow1 (by simp) (by intro k hk; cases hk); have hd1 := (hgrow1.block w.heap.size (by simp) (by simp)).trans (heap_top w _); obtain ⟨⟨c0, c1, c2⟩, f0, f1, f2⟩ := cells3 hd1)
  rw [show (w.alloc (.cells #[.slice none 0 0, .slice none 0 0, .nilFunc] 106)).heap.size = w.heap.size + 1 by simp] at hrow
  go_wp2_with fail
  refine bodyPost_ret (v := .agg #[.slice none 0 0, .slice (some ⟨w.heap.size + 1, 0, none⟩) n n, .func (.func 69) #[] #[]]) (by simp [results, Try.results68, go_sem, c0, c1, c2]) rfl ⟨w.heap.size + 1, rfl, ?_, by omega, ?_⟩
  · rw [heap_setCell_other _ _ _ _ (by simp), heap_setCell_other _ _ _ _ (by simp), heap_setCell_other _ _ _ _ (by simp)]
    exact hrow
  · exact ((hb1.setCell (by simp) _).setCell (by simp) _).setCell (by simp) _
/-- What New tells. -/
def newE (n : Int) : Int := if 0 ≤ n ∧ n ≤ 16384 then 0 else 1
set_option maxRecDepth 100000 in
set_option maxHeartbeats 800000 in
theorem New_no (n : Int) (hn : ¬ (0 ≤ n ∧ n ≤ 16384)) (w : World) :
    Calls Try.prog 59 #[.int .i64 n] w fun e w' => e = .returned (.tuple #[.pointer none, .int .i64 1]) ∧ w' = w := by
  by_cases h0 : n < 0
  · go_enter Try.func59, Try.ntmps59
    go_wp2_with fail
    go_ret2
    exact ⟨rfl, rfl⟩
  · have h1 : 16384 < n := by omega
    clear hn
    go_enter Try.func59, Try.ntmps59
    go_wp2_with fail
    go_ret2
    exact ⟨rfl, rfl⟩
set_option maxRecDepth 100000 in
set_option maxHeartbeats 800000 in
theorem New_any (n : Nat) (hn : n ≤ 16384) (w : World) :
    Calls Try.prog 59 #[.int .i64 n] w fun e w' => ∃ h D, e = .returned (.tuple #[.pointer (some ⟨h, 0, none⟩), .int .i64 0]) ∧ HR w' h n (fun _ => none) D ∧ (∀ k, D k → w.heap.size ≤ k) ∧ Below w.heap.size w w' := by
  have HEM := Lib.hid (empty_any n hn w)
  have h1 : ¬ (16384 : Int) < n := by omega
  go_enter Try.func59, Try.ntmps59
  go_wp2_with fail
  refine HEM.out.mono ?_
  rintro e w1 ⟨p, rfl, hp, hps, hb⟩
  go_wp2_with fail
  go_ret2
  refine ⟨w1.heap.size, Dof w1.heap.size p (.slice none 0 0), rfl, ⟨p, .slice none 0 0, [], List.replicate n 0, ⟨heap_top _ _, ?_, (Below.heap_alloc _ _ _ (lt_of_block hp)).trans hp, ?_, by simp [Value.ownBlock], by simp [Value.ownBlock], by simp, hn⟩, WF.empty n, rfl⟩, ?_, hb.alloc hb.size _⟩
  · exact World.ownsRow_nil _ _ _ _
  · have := lt_of_block hp; omega
  · rintro k (rfl | rfl | hk)
    · exact hb.size
    · exact hps
    · cases hk
theorem HRto.comp {w w1 w2 : World} {h n : Nat} {T2 : Nat → Option Int} {D D1 : Nat → Prop} (hd : ∀ k, D1 k → D k ∨ w.heap.size ≤ k) (f : Fr D w w1) (b : HRto w1 w2 h n T2 D1) : HRto w w2 h n T2 D := by
  obtain ⟨D2, r, hd2, f2⟩ := b
  refine ⟨D2, r, fun k hk => ?_, f.trans f2 hd⟩
  rcases hd2 k hk with h' | h'
  · exact hd k h'
  · exact Or.inr (Nat.le_trans f.size h')
theorem wt_low1 : lowB 5 (fun _ => none) 3 7 = true := rfl
theorem wt_low2 : lowB 5 (upd (fun _ => none) 3 (some 7)) 1 7 = true := rfl
theorem wt_low3 : lowB 5 (upd (upd (fun _ => none) 3 (some 7)) 1 (some 7)) 3 9 = false := rfl
theorem wt_low4 : lowB 5 (upd (upd (fun _ => none) 3 (some 7)) 1 (some 7)) 3 2 = true := rfl
theorem wt1 : lowTT 5 (fun _ => none) 3 7 = upd (fun _ => none) 3 (some 7) := rfl
theorem wt2 : lowTT 5 (upd (fun _ => none) 3 (some 7)) 1 7 = upd (upd (fun _ => none) 3 (some 7)) 1 (some 7) := rfl
theorem wt3 : lowTT 5 (upd (upd (fun _ => none) 3 (some 7)) 1 (some 7)) 3 9 = upd (upd (fun _ => none) 3 (some 7)) 1 (some 7) := rfl
theorem wt4 : lowTT 5 (upd (upd (fun _ => none) 3 (some 7)) 1 (some 7)) 3 2 = upd (upd (upd (fun _ => none) 3 (some 7)) 1 (some 7)) 3 (some 2) := rfl
theorem wt_top : TopIs 5 (upd (upd (upd (fun _ => none) 3 (some 7)) 1 (some 7)) 3 (some 2)) 3 2 0 := by
  refine Or.inl ⟨rfl, rfl, by omega, fun y k' hy => ?_⟩
  unfold upd at hy
  split at hy
  · injection hy with hy; omega
  · split at hy
    · injection hy with hy; omega
    · cases hy
theorem wt_cnt : cnt (upd (upd (upd (upd (fun _ => none) 3 (some 7)) 1 (some 7)) 3 (some 2)) 3 none) 5 = 1 := by decide
/-- The law's among. -/
def amg (x : Int) (n : Nat) : Int := x % n
theorem tmod_bd (x : Int) (n : Nat) (hn : 0 < n) : -(n : Int) < x.tmod n ∧ x.tmod n < n := by
  have h1 := Int.tmod_lt_of_pos x (show (0 : Int) < n by omega)
  have h2 := Int.tmod_lt_of_pos (-x) (show (0 : Int) < n by omega)
  rw [Int.neg_tmod] at h2
  omega
theorem tmod_amg (x : Int) (n : Nat) : (x.tmod n + n) % (n : Int) = amg x n := by
  unfold amg
  rw [Int.add_emod_right]
  have h := Int.mul_tdiv_add_tmod x n
  conv => rhs; rw [← h]
  rw [Int.mul_add_emod_self_left]
end Go.Proofs.Ytgkpmcpkobphpaa.N5.Hp
