/-
  Contracts of grow.check, grow.isVertex and around.
-/
import Derived.Test.YtpgadcacimjlaaaBase
namespace Go.Proofs.Ytpgadcacimjlaaa
open Go.RowKit
/-- What grow.check answers. -/
def gchk (N c m : Int) (l : List A) : Int := if chkE N l ≠ 0 then chkE N l else if ¬ (0 ≤ c ∧ c < N) then 5 else if m < 1 ∨ 1024 < m then 1 else 0
theorem gchk_zero {N c m : Int} {l : List A} (h : gchk N c m l = 0) : chkE N l = 0 ∧ (0 ≤ c ∧ c < N) ∧ 1 ≤ m ∧ m ≤ 1024 := by
  unfold gchk at h
  split at h
  · exact absurd h (by assumption)
  · rename_i h1
    have h1 : chkE N l = 0 := by omega
    split at h
    · cases h
    · rename_i h2
      split at h
      · cases h
      · exact ⟨h1, by omega, by omega, by omega⟩
theorem gisv_any (N v : Int) (s : Value) (w : World) : Calls Try.prog 35 #[.agg #[.int .i64 N, s], .int .i64 v] w fun e w' => e = .returned (.bool (decide (0 ≤ v ∧ v < N))) ∧ Below w.heap.size w w' := by
  by_cases h1 : 0 ≤ v
  · by_cases h2 : v < N
    · rw [decide_eq_true ⟨h1, h2⟩]
      go_enter Try.func35, Try.ntmps35
      go_wp2_with fail
      go_ret
      exact ⟨rfl, (Below.refl _ _).alloc (Nat.le_refl _) _⟩
    · rw [decide_eq_false (fun h => h2 h.2)]
      go_enter Try.func35, Try.ntmps35
      go_wp2_with fail
      go_ret
      exact ⟨rfl, (Below.refl _ _).alloc (Nat.le_refl _) _⟩
  · rw [decide_eq_false (fun h => h1 h.1)]
    go_enter Try.func35, Try.ntmps35
    go_wp2_with fail
    go_ret
    exact ⟨rfl, (Below.refl _ _).alloc (Nat.le_refl _) _⟩
theorem around_any (f : Nat) (c : Int) (w : World) : Calls Try.prog 20 #[.pointer (some ⟨f, 0, none⟩), .int .i64 c] w fun e w' => e = .returned (.func (.func 37) #[] #[.pointer (some ⟨w.heap.size, 0, none⟩), .pointer (some ⟨w.heap.size + 1, 0, none⟩)]) ∧ w' = (w.alloc (.cells #[.pointer (some ⟨f, 0, none⟩)] 54)).alloc (.cells #[.int .i64 c] 3) := by
  go_enter Try.func20, Try.ntmps20
  go_wp2_with fail
  go_ret
  exact ⟨rfl, rfl⟩
set_option maxHeartbeats 800000 in
theorem gchk_any (N c m : Int) (a : Option Addr) (l : List A) (cap : Nat) (w : World) (hl : l.length ≤ 9223372036854775807) (hr : Arcs w a l) :
    Calls Try.prog 18 #[.agg #[.int .i64 N, .slice a l.length cap], .int .i64 c, .int .i64 m] w fun e w' => e = .returned (.int .i64 (gchk N c m l)) ∧ Below w.heap.size w w' := by
  have hb0 : Below w.heap.size w (w.alloc (.cells #[.int .i64 N, .slice a l.length cap] 24)) := (Below.refl _ _).alloc (Nat.le_refl _) _
  have hg := heap_top w (.cells #[.int .i64 N, .slice a l.length cap] 24)
  have hr2 := hr.on hb0
  obtain ⟨E, HE⟩ := named (chkE N l)
  obtain ⟨R, HR⟩ := named (gchk N c m l)
  obtain ⟨AT, HAT⟩ := named (chkAt N l)
  rw [HR.out]
  go_enter Try.func18, Try.ntmps18
  go_wp2_with fail
  generalize hW : w.alloc (.cells #[.int .i64 N, .slice a l.length cap] 24) = W at *
  generalize hp : w.heap.size = p at *
  refine (check_any N a l cap W hl hr2).mono ?_
  rintro e w1 ⟨rfl, hb1⟩
  rw [HE.out, HAT.out]
  have hg1 := (hb1.block _ (lt_of_block hg)).trans hg
  obtain ⟨⟨g0, g1⟩, _⟩ := two_cells hg1
  have hbw : Below p w w1 := hb0.trans (hb1.mono (by rw [← hp] at *; exact Nat.le_of_lt (lt_of_block hg)))
  have HBW := Lib.hid hbw
  clear hb1 hbw hg hb0 hr2
  by_cases he : E = 0
  · have he2 : (E != 0) = false := by simp [he]
    go_wp2_with fail
    refine (gisv_any N c _ w1).mono ?_
    rintro e w2 ⟨rfl, hb2⟩
    have HB2 : Hid (Below p w w2) := HBW.out.trans (hb2.mono (hp ▸ HBW.out.size))
    clear hb2
    by_cases hc : 0 ≤ c ∧ c < N
    · rw [decide_eq_true hc]
      have h1 : R = if m < 1 ∨ 1024 < m then 1 else 0 := by
        rw [← HR.out]; unfold gchk; rw [if_neg (by rw [HE.out, he]; simp), if_neg (by simpa using hc)]
      by_cases hm1 : m < 1
      · rw [if_pos (.inl hm1)] at h1
        subst h1
        go_wp2_with fail
        go_ret
        exact ⟨rfl, by rw [hp]; exact HB2.out⟩
      · by_cases hm2 : 1024 < m
        · rw [if_pos (.inr hm2)] at h1
          subst h1
          go_wp2_with fail
          go_ret
          exact ⟨rfl, by rw [hp]; exact HB2.out⟩
        · rw [if_neg (by omega)] at h1
          subst h1
          go_wp2_with fail
          go_ret
          exact ⟨rfl, by rw [hp]; exact HB2.out⟩
    · rw [decide_eq_false hc]
      have h1 : R = 5 := by
        rw [← HR.out]; unfold gchk; rw [if_neg (by rw [HE.out, he]; simp), if_pos hc]
      subst h1
      go_wp2_with fail
      go_ret
      exact ⟨rfl, by rw [hp]; exact HB2.out⟩
  · have he2 : (E != 0) = true := by simp [he]
    have h1 : R = E := by
      rw [← HR.out]; unfold gchk; rw [if_pos (by rw [HE.out]; exact he), HE.out]
    subst h1
    go_wp2_with fail
    go_ret
    exact ⟨rfl, by rw [hp]; exact HBW.out⟩
end Go.Proofs.Ytpgadcacimjlaaa
