/-
  Lists of numbers; the contract of the book's SameInts, at the same ones: true.
-/
import Derived.Test.YtpmjbeiclmllmaaGreatMem
namespace Go.Proofs.YtpmjbeiclmllmaaGreat
open Go.RowKit
/-- Numbers of a slice lie so in memory. -/
def Ints (w : World) (a : Option Addr) (xs : List Int) : Prop :=
  xs = [] ∨ ∃ b o, a = some ⟨b, o, none⟩ ∧ b < w.heap.size ∧ ∀ j, j < xs.length → w.cell? ⟨b, o + j, none⟩ = some (.int .i64 (xs.getD j 0))
theorem Ints.on {w w' : World} {a : Option Addr} {xs : List Int} (h : Ints w a xs) (hb : Below w.heap.size w w') : Ints w' a xs := by
  rcases h with h | ⟨b, o, rfl, hl, hc⟩
  · exact Or.inl h
  · exact Or.inr ⟨b, o, rfl, Nat.lt_of_lt_of_le hl hb.size, fun j hj => (hb.cell (p := ⟨b, o + j, none⟩) hl).trans (hc j hj)⟩
theorem ints_own {w : World} {B : Nat} {a : Option Addr} {c : Nat} {xs : List Int} (h : w.ownsRow B 3 1 (.slice a xs.length c) xs.length (cellsI xs)) : Ints w a xs := by
  by_cases h0 : xs = []
  · exact Or.inl h0
  · rcases h.2 with ⟨_, h'⟩ | ⟨g, c', cur, h', hb, hg, hnc, hm, _⟩
    · exact absurd (List.eq_nil_of_length_eq_zero h') h0
    · injection h' with e1 e2 e3
      subst e1
      refine Or.inr ⟨g, 0, rfl, lt_of_block hg, fun j hj => ?_⟩
      rw [Nat.zero_add, World.ownsRow.cellAt h j (by omega), cellsI_getD xs j hj]
theorem Ints.get {w : World} {a : Option Addr} {xs : List Int} (h : Ints w a xs) : ∃ b o, 0 < xs.length → a = some ⟨b, o, none⟩ ∧ b < w.heap.size ∧ ∀ j, j < xs.length → w.cell? ⟨b, o + j, none⟩ = some (.int .i64 (xs.getD j 0)) := by
  rcases h with rfl | ⟨b, o, h⟩
  · exact ⟨0, 0, fun h => absurd h (by simp)⟩
  · exact ⟨b, o, fun _ => h⟩
set_option maxHeartbeats 400000 in
theorem sameInts_any (a a' : Option Addr) (cap cap' : Nat) (xs : List Int) (w : World) (hlen : xs.length ≤ 9223372036854775807) (hr : Ints w a xs) (hr' : Ints w a' xs) :
    Calls Tryz.prog 41 #[.slice a xs.length cap, .slice a' xs.length cap'] w fun e w' => e = .returned (.bool true) ∧ Below w.heap.size w w' := by
  obtain ⟨b, o, hab⟩ := hr.get
  obtain ⟨b', o', hab'⟩ := hr'.get
  go_enter Tryz.func41, Tryz.ntmps41
  go_wp2_with fail
  go_loopw [5] (fun i wr => ∃ k n : Nat, k ≤ xs.length ∧ i = .int .i64 k ∧ wr = w.drewN n) (fun i _ => xs.length - (intOf i).toNat)
  case atStart => exact ⟨0, 0, Nat.zero_le _, rfl, rfl⟩
  case round =>
    obtain ⟨k, n, hk, rfl, rfl⟩ := hrel
    by_cases hlt : k < xs.length
    · obtain ⟨rfl, _, hc⟩ := hab (by omega)
      obtain ⟨rfl, _, hc'⟩ := hab' (by omega)
      have c1 := hc k hlt
      have c2 := hc' k hlt
      clear hc hc'
      generalize xs.getD k 0 = x at *
      go_wp2_with fail
      go_quiet (fail)
      go_wp2_with fail
      exact ⟨⟨k + 1, _, by omega, by go_num, rfl⟩, by simp [intOf]; omega⟩
    · go_wp2_with fail
      go_ret
      exact ⟨rfl, below_drewN _ _ _⟩
theorem own_ints {w : World} {base n cap : Nat} {a : Option Addr} {xs : List Nat} (h : w.ownsRow base 3 1 (.slice a n cap) n (cellsI (ints xs))) (hn : xs.length = n) : Ints w a (ints xs) := by
  rcases h.2 with ⟨e1, e2⟩ | ⟨g, c, cur, e1, _, h3, _⟩
  · left
    rw [e2] at hn
    rw [List.eq_nil_of_length_eq_zero hn]; rfl
  · injection e1 with e1 e2 e3
    subst e1
    right
    refine ⟨g, 0, rfl, lt_of_block h3, fun j hj => ?_⟩
    obtain ⟨g', e, _, _, hc⟩ := own_cell h (by rw [ints_len]; exact hn) (j := j) (by rw [ints_len] at hj; omega)
    injection e with e
    injection e with e
    subst e
    rw [Nat.zero_add]
    exact hc
end Go.Proofs.YtpmjbeiclmllmaaGreat
