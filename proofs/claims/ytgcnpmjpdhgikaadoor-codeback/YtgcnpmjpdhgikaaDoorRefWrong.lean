/-
  Contracts of the reference's number and wrong: what the code's appendNumber and check answer.
-/
import Derived.Test.YtgcnpmjpdhgikaaDoorAppend
namespace Go.Proofs.YtgcnpmjpdhgikaaDoor
open Go.RowKit
set_option maxHeartbeats 400000 in
theorem rnum_any (base : Nat) (v : Value) (l : List UInt8) (n : Nat) (hn : n < 18446744073709551616) (w : World) (hown : w.ownsRow base 5 1 v l.length (bytesC l)) (hb : base ≤ w.heap.size) (hl : l.length ≤ 1000000) :
    Calls Tryd.prog 42 #[v, .int .u64 n] w fun e w' => ∃ v', e = .returned v' ∧ w'.ownsRow base 5 1 v' (l ++ numD n).length (bytesC (l ++ numD n)) ∧ Fr base w w' := by
  obtain ⟨i0, hi, hz0, hz1, hz2⟩ := info_parts info5
  have HO := Lib.hid hown
  clear hown
  go_enter Tryd.func42, Tryd.ntmps42
  go_wp2_with fail
  go_loopw [0, 1] (fun b x wr => ∃ (f m : Nat) (pre : List UInt8), x = .int .u64 m ∧ m < 2 ^ (7 * (f + 1)) ∧ m < 18446744073709551616 ∧ Hid (pre ++ numG f m = numD n) ∧ Hid (wr.ownsRow base 5 1 b (l ++ pre).length (bytesC (l ++ pre))) ∧ Fr base w wr) (fun _ x _ => (intOf x).toNat)
  case atStart => exact ⟨9, n, [], rfl, by omega, hn, rfl, by show World.ownsRow _ _ _ _ _ _ _; rw [List.append_nil]; exact HO.out, Fr.refl _ _⟩
  case round =>
    obtain ⟨f, m, pre, rfl, hm, hm64, HP, HR, hbel⟩ := hrel
    have hlen : pre.length ≤ 10 := by
      have e := congrArg List.length HP.out
      have := (numD_len n).2
      rw [List.length_append] at e; omega
    have hlen2 : (l ++ pre).length ≤ 1000010 := by rw [List.length_append]; omega
    have hsz := hbel.size
    by_cases hb7 : 128 ≤ m
    · have hb7' : (128 : Int) ≤ m := by omega
      obtain ⟨f, rfl⟩ : ∃ f', f = f' + 1 := by
        cases f with
        | zero => exact absurd hm (by simp; omega)
        | succ f => exact ⟨f, rfl⟩
      have hm' : m / 128 < 2 ^ (7 * (f + 1)) := by
        have e : 2 ^ (7 * (f + 1 + 1)) = 2 ^ (7 * (f + 1)) * 128 := by rw [show 7 * (f + 1 + 1) = 7 * (f + 1) + 7 by omega, Nat.pow_add]
        rw [e] at hm
        exact Nat.div_lt_of_lt_mul (by rw [Nat.mul_comm]; exact hm)
      have HP' : Hid ((pre ++ [UInt8.ofNat (m % 128 + 128)]) ++ numG f (m / 128) = numD n) := by
        show _ = _
        rw [← HP.out, numG_big hb7, List.append_assoc]; rfl
      clear hm
      go_wp2_with (at_builtin; refine wpList_append_own _ rfl (.tmp 7) (.tmp 12) 50 rfl base 5 i0 (.int .u8 0) 1 1 Tryd.underlying50 hi hz0 hz1 hz2 rfl (by decide) u0 (l ++ pre).length (bytesC (l ++ pre)) rfl (HR.out.alloc _) ⟨wr.heap.size, 0, none⟩ 1 1 [.int .u8 ((m : Int) % 128 + 128)] rfl rfl (news_one wr _) (one_u8 _) (by unfold maxLen; omega) (by omega) (by simp; omega) ?_; intro v1 w1 hown1 hgrow1 hnil1; clear hnil1)
      refine ⟨⟨f, m / 128, pre ++ [UInt8.ofNat (m % 128 + 128)], by go_num, hm', by omega, HP', ?_, (hbel.alloc (by omega) _).grown (HR.out.alloc _) hgrow1 (by simp; omega)⟩, ?_⟩
      · show World.ownsRow _ _ _ _ _ _ _
        rw [← List.append_assoc, List.length_append, bytesC_append, bytesC_of _ (by omega)]
        exact hown1
      · simp [intOf]; omega
    · have hb7' : ¬ (128 : Int) ≤ m := by omega
      have HE : Hid (numD n = pre ++ [UInt8.ofNat m]) := by
        show _ = _
        rw [← HP.out, numG_small (by omega)]
      clear hm
      go_wp2_with (at_builtin; refine wpList_append_own _ rfl (.tmp 16) (.tmp 19) 50 rfl base 5 i0 (.int .u8 0) 1 1 Tryd.underlying50 hi hz0 hz1 hz2 rfl (by decide) u0 (l ++ pre).length (bytesC (l ++ pre)) rfl (HR.out.alloc _) ⟨wr.heap.size, 0, none⟩ 1 1 [.int .u8 (m : Int)] rfl rfl (news_one wr _) (one_u8 _) (by unfold maxLen; omega) (by omega) (by simp; omega) ?_; intro v1 w1 hown1 hgrow1 hnil1; clear hnil1)
      go_ret
      refine ⟨v1, rfl, ?_, (hbel.alloc (by omega) _).grown (HR.out.alloc _) hgrow1 (by simp; omega)⟩
      have h9 := own_join (l := l ++ pre) (m := [UInt8.ofNat m]) (by rw [bytesC_of _ (by omega)]; exact hown1)
      rw [List.append_assoc, List.length_append] at h9
      rw [HE.out]
      exact h9
theorem rnum (base : Nat) (v : Value) (l : List UInt8) (n : Nat) (hn : n < 18446744073709551616) (w : World) (hown : OwnB w base v l) (hb : base ≤ w.heap.size) (hl : l.length ≤ 1000000) :
    Calls Tryd.prog 42 #[v, .int .u64 n] w fun e w' => ∃ v', e = .returned v' ∧ OwnB w' base v' (l ++ numD n) ∧ Fr base w w' :=
  rnum_any base v l n hn w hown hb hl
set_option maxHeartbeats 400000 in
theorem wrong_deep (w : World) (k n : Int) (s : ByteArray) (a : Option Addr) (m cap : Nat) :
    Calls Tryd.prog 28 #[.agg #[.int .i64 k, .int .u64 n, .string s, .slice a m cap], .int .i64 9] w fun e w' => e = .returned (.int .i64 21) ∧ Below w.heap.size w w' := by
  go_enter Tryd.func28, Tryd.ntmps28
  go_wp2_with fail
  go_ret
  exact ⟨rfl, (Below.refl _ _).alloc (Nat.le_refl _) _⟩
set_option maxHeartbeats 1000000 in
theorem wrong_kind (d : Int) (hd : d ≤ 8) (w : World) (k n : Int) (s : ByteArray) (a : Option Addr) (m cap : Nat) (hk : keepsB k n s m = false) :
    Calls Tryd.prog 28 #[.agg #[.int .i64 k, .int .u64 n, .string s, .slice a m cap], .int .i64 d] w fun e w' => e = .returned (.int .i64 20) ∧ Below w.heap.size w w' := by
  have hd' : ¬ 8 < d := by omega
  unfold keepsB at hk
  by_cases h1 : k = 1
  · subst h1
    rw [if_pos rfl] at hk
    by_cases h2 : s.toList = []
    · have h2' : s.toList.isEmpty = true := by rw [h2]; rfl
      rw [h2', Bool.true_and] at hk
      have hm : (0 : Int) < m := by have := of_decide_eq_false hk; omega
      clear hk
      go_enter Tryd.func28, Tryd.ntmps28
      go_wp2_with fail
      go_ret
      exact ⟨rfl, (Below.refl _ _).alloc (Nat.le_refl _) _⟩
    · have h2' : s.toList.isEmpty = false := by simp [h2]
      clear hk
      go_enter Tryd.func28, Tryd.ntmps28
      go_wp2_with fail
      go_ret
      exact ⟨rfl, (Below.refl _ _).alloc (Nat.le_refl _) _⟩
  · rw [if_neg h1] at hk
    have h1' : (k == 1) = false := beq_eq_false_iff_ne.2 h1
    by_cases h2 : k = 2
    · subst h2
      rw [if_pos rfl] at hk
      by_cases h0 : n = 0
      · rw [decide_eq_true h0, Bool.true_and] at hk
        have hm : (0 : Int) < m := by have := of_decide_eq_false hk; omega
        have h0' : (n == 0) = true := by rw [beq_iff_eq]; exact h0
        clear hk
        go_enter Tryd.func28, Tryd.ntmps28
        go_wp2_with fail
        go_ret
        exact ⟨rfl, (Below.refl _ _).alloc (Nat.le_refl _) _⟩
      · have h0' : (n == 0) = false := beq_eq_false_iff_ne.2 h0
        clear hk
        go_enter Tryd.func28, Tryd.ntmps28
        go_wp2_with fail
        go_ret
        exact ⟨rfl, (Below.refl _ _).alloc (Nat.le_refl _) _⟩
    · rw [if_neg h2] at hk
      have h2' : (k == 2) = false := beq_eq_false_iff_ne.2 h2
      by_cases h3 : k = 3
      · subst h3
        rw [if_pos rfl] at hk
        by_cases h0 : n = 0
        · rw [decide_eq_true h0, Bool.true_and] at hk
          have hne : ¬ s.toList = [] := by intro e; rw [e] at hk; cases hk
          have h0' : (n == 0) = true := by rw [beq_iff_eq]; exact h0
          go_enter Tryd.func28, Tryd.ntmps28
          go_wp2_with fail
          go_ret
          exact ⟨rfl, (Below.refl _ _).alloc (Nat.le_refl _) _⟩
        · have h0' : (n == 0) = false := beq_eq_false_iff_ne.2 h0
          clear hk
          go_enter Tryd.func28, Tryd.ntmps28
          go_wp2_with fail
          go_ret
          exact ⟨rfl, (Below.refl _ _).alloc (Nat.le_refl _) _⟩
      · have h3' : (k == 3) = false := beq_eq_false_iff_ne.2 h3
        clear hk
        go_enter Tryd.func28, Tryd.ntmps28
        go_wp2_with fail
        go_ret
        exact ⟨rfl, (Below.refl _ _).alloc (Nat.le_refl _) _⟩
end Go.Proofs.YtgcnpmjpdhgikaaDoor
