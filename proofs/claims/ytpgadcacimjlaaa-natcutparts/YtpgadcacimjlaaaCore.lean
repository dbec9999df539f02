/-
  The contract of grow.Core.
-/
import Derived.Test.YtpgadcacimjlaaaRegion
namespace Go.Proofs.Ytpgadcacimjlaaa
open Go.RowKit
theorem own_take {w : World} {base n k c : Nat} {a : Option Addr} {xs : List Value} (h : w.ownsRow base 3 1 (.slice a n c) n xs) (hk : k ≤ n) (hk0 : 0 < n ∨ k = 0) : w.ownsRow base 3 1 (.slice a k c) k (xs.take k) := by
  have hl := h.1
  refine ⟨by rw [List.length_take]; omega, ?_⟩
  rcases h.2 with ⟨e, h0⟩ | ⟨g, c', cur, e, h2, h3, h4, h5, h6, h7⟩
  · injection e with e1 e2 e3
    subst e1; subst e3
    obtain rfl : k = 0 := by omega
    exact .inl ⟨rfl, rfl⟩
  · injection e with e1 e2 e3
    subst e1; subst e3
    refine .inr ⟨g, c, cur, rfl, h2, h3, Nat.le_trans hk h4, h5, h6, ?_⟩
    rw [← h7, List.take_take]
    congr 1
    omega
/-- A core: the first quarter of a region. -/
def core (N : Nat) (l : List A) (c m : Nat) : List Nat := (reg N l c m).take (((reg N l c m).length + 3) / 4)
theorem reg_len (N : Nat) (l : List A) (c m : Nat) : (reg N l c m).length ≤ m := by unfold reg; rw [List.length_take]; omega
theorem cells_take (xs : List Nat) (k : Nat) : (cellsI (ints xs)).take k = cellsI (ints (xs.take k)) := by simp [cellsI, ints, List.map_take]
set_option maxHeartbeats 800000 in
theorem core_any (N c m : Int) (a : Option Addr) (l : List A) (cap : Nat) (w : World) (hl : l.length ≤ 9223372036854775807) (hr : Arcs w a l) :
    Calls Try.prog 9 #[.agg #[.int .i64 N, .slice a l.length cap], .int .i64 c, .int .i64 m] w fun e w' => ∃ v xs, e = .returned (.tuple #[v, .int .i64 (gchk N c m l)]) ∧ w'.ownsRow w.heap.size 3 1 v xs.length (cellsI (ints xs)) ∧ xs = (if gchk N c m l = 0 then core N.toNat l c.toNat m.toNat else []) ∧ Below w.heap.size w w' := by
  have hb0 : Below w.heap.size w (w.alloc (.cells #[.int .i64 N, .slice a l.length cap] 24)) := (Below.refl _ _).alloc (Nat.le_refl _) _
  have hr2 := hr.on hb0
  have hsz : w.heap.size ≤ (w.alloc (.cells #[.int .i64 N, .slice a l.length cap] 24)).heap.size := hb0.size
  obtain ⟨E, HE⟩ := named (gchk N c m l)
  rw [HE.out]
  generalize hp : w.heap.size = p at *
  go_enter Try.func9, Try.ntmps9
  go_wp2_with fail
  generalize hW : w.alloc (.cells #[.int .i64 N, .slice a l.length cap] 24) = W at *
  refine (region_any N c m a l cap W hl hr2).mono ?_
  rintro e w1 ⟨v, xs, rfl, hown, hxs, hb1⟩
  rw [HE.out] at hxs ⊢
  have HB1 : Hid (Below p w w1) := hb0.trans (hb1.mono hsz)
  have hown2 := own_base hown hsz
  obtain ⟨av, cv, rfl⟩ := own_slice hown
  have hcap : xs.length ≤ cv := by
    rcases hown.2 with ⟨e, h0⟩ | ⟨g, c', cur, e, _, _, h4, _⟩
    · injection e with e1 e2 e3; omega
    · injection e with e1 e2 e3; subst e3; exact h4
  have hcm : cv ≤ 9223372036854775807 := by
    rcases hown.2 with ⟨e, h0⟩ | ⟨g, c', cur, e, _, _, h4, h5, _⟩
    · injection e with e1 e2 e3; omega
    · injection e with e1 e2 e3; subst e3; exact h5
  have HOW := Lib.hid hown2
  clear hown hown2 hb1 hb0 hr2
  by_cases he : E = 0
  · subst he
    obtain ⟨_, _, hm1, hm2⟩ := gchk_zero HE.out
    have hxl : xs.length ≤ 1024 := by
      rw [if_pos rfl] at hxs
      rw [hxs]
      exact Nat.le_trans (reg_len _ _ _ _) (by omega)
    have hq : ((xs.length + 3) / 4 : Nat) ≤ xs.length := by omega
    have hx0 : 0 < xs.length ∨ (xs.length + 3) / 4 = 0 := by omega
    have HT : Hid (w1.ownsRow p 3 1 (.slice av ((xs.length + 3) / 4) cv) ((xs.length + 3) / 4) (cellsI (ints (xs.take ((xs.length + 3) / 4))))) := by
      have := own_take HOW.out hq hx0
      rwa [cells_take] at this
    have e1 : ((xs.length : Int) + 3) / 4 = (((xs.length + 3) / 4 : Nat) : Int) := by omega
    have HX := Lib.hid hxs
    clear hxs
    generalize hqq : (xs.length + 3) / 4 = qq at *
    go_wp2_with fail
    go_ret2
    refine ⟨.slice av qq cv, rfl, xs.take qq, ?_, ?_, HB1.out⟩
    · rw [List.length_take, Nat.min_eq_left hq]; exact HT.out
    · have hx := HX.out
      simp only [if_true] at hx
      unfold core
      rw [← hx, hqq]
  · have he2 : (E != 0) = true := by simp [he]
    go_wp2_with fail
    go_ret2
    exact ⟨.slice none 0 0, rfl, [], World.ownsRow_nil _ _ _ _, by simp, HB1.out⟩
end Go.Proofs.Ytpgadcacimjlaaa
