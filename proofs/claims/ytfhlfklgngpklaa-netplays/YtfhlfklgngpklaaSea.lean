/-
  Contract of sort.Search over the timers.
-/
import Derived.Test.YtfhlfklgngpklaaTms
namespace Go.Proofs.Ytfhlfklgngpklaa
open Go.RowKit Go.Maps
set_option maxRecDepth 100000 in
set_option maxHeartbeats 1600000 in
theorem search_any {w : World} {n : Nat} (hn : n ≤ 16384) (x y : Value) (p : Nat → Bool) (hp : ∀ i j, i ≤ j → j < n → p i = true → p j = true)
    (hf : ∀ (W : World) (i : Nat), i < n → Below w.heap.size w W → Calls Try.prog 53 #[.int .i64 (i : Int), x, y] W fun e w' => e = .returned (.bool (p i)) ∧ Below W.heap.size W w') :
    Calls Try.prog 52 #[.int .i64 (n : Int), .func (.func 53) #[] #[x, y]] w fun e w' => ∃ j : Nat, e = .returned (.int .i64 j) ∧ j ≤ n ∧ (∀ i, i < j → p i = false) ∧ (∀ i, j ≤ i → i < n → p i = true) ∧ Below w.heap.size w w' := by
  have HF := Lib.hid hf
  have HP := Lib.hid hp
  clear hf hp
  go_enter Try.func52, Try.ntmps52
  go_wp2_with fail
  go_loopw [5, 6] (fun lo hi wr => ∃ a b : Nat, a ≤ b ∧ b ≤ n ∧ lo = .int .i64 a ∧ hi = .int .i64 b ∧ Hid (∀ i, i < a → p i = false) ∧ Hid (∀ i, b ≤ i → i < n → p i = true) ∧ Hid (Below w.heap.size w wr)) (fun lo hi _ => (intOf hi).toNat - (intOf lo).toNat)
  case atStart => exact ⟨0, n, Nat.zero_le _, Nat.le_refl _, rfl, rfl, Lib.hid (fun i h => by omega), Lib.hid (fun i h h' => by omega), Lib.hid (Below.refl _ _)⟩
  case round =>
    obtain ⟨a, b, hab, hbn, rfl, rfl, H1, H2, HB⟩ := hrel
    by_cases hlt : a < b
    · have hc : (((a + b) / 2 : Nat) : Int) = ((a : Int) + b) / 2 := by omega
      obtain ⟨m, HM⟩ := named ((a + b) / 2)
      have hm : a ≤ m ∧ m < b := by have := HM.out; omega
      rw [HM.out] at hc
      have HC := Lib.hid (HF.out wr m (by omega) HB.out)
      rw [hc] at HC
      have HQ := Lib.hid hc
      have hw1 : IntKind.i64.wrap (((a : Int) + b) / 2 + 1) = ((a : Int) + b) / 2 + 1 := by rw [IntKind.wrap_i64]; omega
      cases hpm : p m
      · rw [hpm] at HC
        clear hc
        go_wp2_with fail
        refine HC.out.mono ?_
        rintro e w2 ⟨rfl, hb2⟩
        have HB2 := Lib.hid (bthen HB.out hb2 HB.out.size)
        clear hb2
        go_wp2_with fail
        exact ⟨⟨m + 1, b, by omega, hbn, by rw [← HQ.out]; go_num, rfl, Lib.hid (fun i h => by
          cases hpi : p i with
          | false => rfl
          | true => exact (HP.out i m (by omega) (by omega) hpi).symm.trans hpm), H2, HB2⟩, by simp only [intOf]; have := HQ.out; omega⟩
      · rw [hpm] at HC
        clear hc
        go_wp2_with fail
        refine HC.out.mono ?_
        rintro e w2 ⟨rfl, hb2⟩
        have HB2 := Lib.hid (bthen HB.out hb2 HB.out.size)
        clear hb2
        go_wp2_with fail
        exact ⟨⟨a, m, hm.1, by omega, rfl, by rw [← HQ.out], H1, Lib.hid (fun i h h' => HP.out m i h h' hpm), HB2⟩, by simp only [intOf]; have := HQ.out; omega⟩
    · go_wp2_with fail
      go_ret
      obtain rfl : a = b := by omega
      exact ⟨a, rfl, hbn, H1.out, H2.out, HB.out⟩
end Go.Proofs.Ytfhlfklgngpklaa
