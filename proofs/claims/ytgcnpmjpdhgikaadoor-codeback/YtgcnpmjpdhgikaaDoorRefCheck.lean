/-
  Contract of the reference's wrong: what the code's check answers.
-/
import Derived.Test.YtgcnpmjpdhgikaaDoorRefWrong
namespace Go.Proofs.YtgcnpmjpdhgikaaDoor
open Go.RowKit
theorem keeps_cases {k n : Int} {s : ByteArray} {m : Nat} (h : keepsB k n s m = true) : (k = 1 ∧ s.toList = [] ∧ m = 0) ∨ (k = 2 ∧ n = 0 ∧ m = 0) ∨ (k = 3 ∧ n = 0 ∧ s.toList = []) := by
  unfold keepsB at h
  by_cases h1 : k = 1
  · rw [if_pos h1] at h
    simp at h
    exact Or.inl ⟨h1, h.1, h.2⟩
  · rw [if_neg h1] at h
    by_cases h2 : k = 2
    · rw [if_pos h2] at h
      simp at h
      exact Or.inr (Or.inl ⟨h2, h.1, h.2⟩)
    · rw [if_neg h2] at h
      by_cases h3 : k = 3
      · rw [if_pos h3] at h
        simp at h
        exact Or.inr (Or.inr ⟨h3, h.1, h.2⟩)
      · rw [if_neg h3] at h; cases h
set_option maxHeartbeats 1000000 in
theorem wrong_leaf (d : Int) (hd : d ≤ 8) (w : World) (k n : Int) (s : ByteArray) (a : Option Addr) (cap : Nat) (hk : (k = 1 ∧ s.toList = []) ∨ (k = 2 ∧ n = 0)) :
    Calls Tryd.prog 28 #[.agg #[.int .i64 k, .int .u64 n, .string s, .slice a 0 cap], .int .i64 d] w fun e w' => e = .returned (.int .i64 0) ∧ Below w.heap.size w w' := by
  have hd' : ¬ 8 < d := by omega
  rcases hk with ⟨rfl, hs⟩ | ⟨rfl, rfl⟩
  · have hs' : s.toList.isEmpty = true := by rw [hs]; rfl
    go_enter Tryd.func28, Tryd.ntmps28
    go_wp2_with fail
    refine wp_loop_rounds 1 ?_
    rw [rounds_succ]
    go_wp2_with fail
    go_ret
    exact ⟨rfl, (Below.refl _ _).alloc (Nat.le_refl _) _⟩
  · go_enter Tryd.func28, Tryd.ntmps28
    go_wp2_with fail
    refine wp_loop_rounds 1 ?_
    rw [rounds_succ]
    go_wp2_with fail
    go_ret
    exact ⟨rfl, (Below.refl _ _).alloc (Nat.le_refl _) _⟩
set_option maxHeartbeats 1000000 in
theorem wrong_long (d : Int) (hd : d ≤ 8) (w : World) (s : ByteArray) (a : Option Addr) (m cap : Nat) (hs : s.toList = []) (hm : 16384 < m) (hm' : m ≤ 140737488355328) :
    Calls Tryd.prog 28 #[.agg #[.int .i64 3, .int .u64 0, .string s, .slice a m cap], .int .i64 d] w fun e w' => e = .returned (.int .i64 2) ∧ Below w.heap.size w w' := by
  have hd' : ¬ 8 < d := by omega
  have hm2 : (16384 : Int) < m := by omega
  have hs' : s.toList.isEmpty = true := by rw [hs]; rfl
  go_enter Tryd.func28, Tryd.ntmps28
  go_wp2_with fail
  go_ret
  exact ⟨rfl, (Below.refl _ _).alloc (Nat.le_refl _) _⟩
set_option maxHeartbeats 1000000 in
theorem wrong_step (d : Int) (hd0 : 0 ≤ d) (hd : d ≤ 8) (w : World) (s : ByteArray) (hs : s.toList = []) (a : Option Addr) (b o m cap : Nat) (ha : 0 < m → a = some ⟨b, o, none⟩) (hm : m ≤ 16384)
    (K NN : Nat → Int) (S : Nat → ByteArray) (A : Nat → Option Addr) (M C : Nat → Nat) (E : Nat → Int)
    (hc : ∀ j, j < m → w.cell? ⟨b, o + j * 4, none⟩ = some (.int .i64 (K j)) ∧ w.cell? ⟨b, o + j * 4 + 1, none⟩ = some (.int .u64 (NN j)) ∧ w.cell? ⟨b, o + j * 4 + 2, none⟩ = some (.string (S j)) ∧ w.cell? ⟨b, o + j * 4 + 3, none⟩ = some (.slice (A j) (M j) (C j)))
    (H : ∀ j, j < m → ∀ w', Below w.heap.size w w' → Calls Tryd.prog 28 #[.agg #[.int .i64 (K j), .int .u64 (NN j), .string (S j), .slice (A j) (M j) (C j)], .int .i64 (d + 1)] w' fun e w'' => e = .returned (.int .i64 (E j)) ∧ Below w'.heap.size w' w'') :
    Calls Tryd.prog 28 #[.agg #[.int .i64 3, .int .u64 0, .string s, .slice a m cap], .int .i64 d] w fun e w' => e = .returned (.int .i64 (firstE E m)) ∧ Below w.heap.size w w' := by
  have hd' : ¬ 8 < d := by omega
  have hm2 : ¬ (16384 : Int) < m := by omega
  have hs' : s.toList.isEmpty = true := by rw [hs]; rfl
  have HH := Lib.hid H
  have HC := Lib.hid hc
  clear H hc
  go_enter Tryd.func28, Tryd.ntmps28
  go_wp2_with fail
  go_loopw [5] (fun i wr => ∃ (j : Nat), j ≤ m ∧ i = .int .i64 j ∧ Hid (firstE E j = 0) ∧ Below (w.heap.size + 1) (w.alloc (.cells #[.int .i64 3, .int .u64 0, .string s, .slice a m cap] 25)) wr) (fun i _ => m - (intOf i).toNat)
  case atStart => exact ⟨0, Nat.zero_le _, rfl, rfl, Below.refl _ _⟩
  case round =>
    obtain ⟨j, hj, rfl, HF, hbx⟩ := hrel
    obtain ⟨c0, c1, c2, c3⟩ := bcell4 hbx (by omega)
    have hbel : Below w.heap.size w wr := ((Below.refl _ _).alloc (Nat.le_refl _) _).trans (hbx.mono (by omega))
    have hsz := hbx.size
    simp only [World.size_alloc] at hsz
    by_cases hlt : j < m
    · obtain ⟨p0, p1, p2, p3⟩ := HC.out j hlt
      have hbl : b < w.heap.size := World.block_lt_of_cell? w _ p0
      have q0 := (hbel.cell (p := ⟨b, o + j * 4, none⟩) hbl).trans p0
      have q1 := (hbel.cell (p := ⟨b, o + j * 4 + 1, none⟩) hbl).trans p1
      have q2 := (hbel.cell (p := ⟨b, o + j * 4 + 2, none⟩) hbl).trans p2
      have q3 := (hbel.cell (p := ⟨b, o + j * 4 + 3, none⟩) hbl).trans p3
      clear p0 p1 p2 p3
      have ha' := ha (by omega)
      subst ha'
      go_wp2_with fail
      refine (HH.out j hlt _ hbel).mono ?_
      rintro e w2 ⟨rfl, hb2⟩
      have hbx2 := hbx.trans (hb2.mono hsz)
      have hb3 : Below w.heap.size w w2 := hbel.trans (hb2.mono (by omega))
      clear hb2
      by_cases hE : E j = 0
      · have HF2 : Hid (firstE E (j + 1) = 0) := by
          show _ = _
          unfold firstE
          rw [if_pos HF.out]; exact hE
        rw [hE]
        clear hE
        go_wp2_with fail
        exact ⟨⟨j + 1, by omega, by go_num, HF2, hbx2⟩, by simp [intOf]; omega⟩
      · have HE : Hid (firstE E m = E j) := firstE_stop E HF.out hE hlt
        have hE' : (E j == 0) = false := beq_eq_false_iff_ne.2 hE
        clear hE
        go_wp2_with fail
        go_ret
        exact ⟨ret_int (by rw [HE.out]), hb3⟩
    · have hjm : j = m := by omega
      have HE : Hid (firstE E m = 0) := by rw [← hjm]; exact HF
      clear hjm
      go_wp2_with fail
      go_ret
      exact ⟨ret_int (by rw [HE.out]), hbel⟩
theorem rwrong_any (f : Nat) : f ≤ 8 → ∀ (t : T) (w : World), InF w f t →
    Calls Tryd.prog 28 #[t.val, .int .i64 (9 - (f : Int))] w fun e w' => e = .returned (.int .i64 (wrongF f t)) ∧ Below w.heap.size w w' := by
  induction f with
  | zero => intro _ t w _; exact wrong_deep w _ _ _ _ _ _
  | succ f ih =>
    intro hf t w hin
    unfold wrongF
    by_cases hk : t.keeps = false
    · rw [if_pos hk]
      exact wrong_kind _ (by omega) w _ _ _ _ _ _ hk
    · rw [if_neg hk]
      have hk' : keepsB t.k t.n t.s t.l.length = true := by
        cases h : t.keeps
        · exact absurd h hk
        · exact h
      rcases keeps_cases hk' with ⟨h1, h2, h3⟩ | ⟨h1, h2, h3⟩ | ⟨h1, h2, h3⟩
      · rw [if_neg (by omega), h3]
        have h := wrong_leaf (9 - ((f + 1 : Nat) : Int)) (by omega) w t.k t.n t.s t.a t.cap (Or.inl ⟨h1, h2⟩)
        rw [← h3] at h
        exact h
      · rw [if_neg (by omega), h3]
        have h := wrong_leaf (9 - ((f + 1 : Nat) : Int)) (by omega) w t.k t.n t.s t.a t.cap (Or.inr ⟨h1, h2⟩)
        rw [← h3] at h
        exact h
      · by_cases hm : 16384 < t.l.length
        · rw [if_pos hm]
          have h := wrong_long (9 - ((f + 1 : Nat) : Int)) (by omega) w t.s t.a t.l.length t.cap h3 hm hin.1.2.2.2
          rw [← h1] at h
          have e : (.int .u64 0 : Value) = .int .u64 t.n := by rw [h2]
          rw [e] at h
          exact h
        · rw [if_neg hm]
          obtain ⟨b, o, ha, hat⟩ := hin.cells
          have h := wrong_step (9 - ((f + 1 : Nat) : Int)) (by omega) (by omega) w t.s h3 t.a b o t.l.length t.cap ha (by omega) (fun j => (t.m j).k) (fun j => (t.m j).n) (fun j => (t.m j).s) (fun j => (t.m j).a) (fun j => (t.m j).l.length) (fun j => (t.m j).cap) (fun j => wrongF f (t.m j)) hat (by
            intro j hj w' hb
            have h := ih (by omega) (t.m j) w' ((hin.mem hj).on hb)
            rw [show (9 - ((f + 1 : Nat) : Int)) + 1 = 9 - (f : Int) by omega]
            exact h)
          rw [← h1] at h
          have e : (.int .u64 0 : Value) = .int .u64 t.n := by rw [h2]
          rw [e] at h
          exact h
end Go.Proofs.YtgcnpmjpdhgikaaDoor
