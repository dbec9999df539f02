/-
  How links are ordered: cmp.Compare, slices.Compare, and what Links hands to the sort.
-/
import Derived.Test.YtfhlfklgngpklaaLk
import Derived.Test.YtfhlfklgngpklaaSrt
namespace Go.Proofs.Ytfhlfklgngpklaa
open Go.RowKit Go.Maps
open Go.Sort (SWO grow)
def cmpI (x y : Int) : Int := if x < y then -1 else if y < x then 1 else 0
def cmpP (p q : Pr) : Int := if cmpI p.a q.a ≠ 0 then cmpI p.a q.a else cmpI p.b q.b
theorem cmpI_zero {x y : Int} : cmpI x y = 0 ↔ x = y := by
  unfold cmpI
  constructor
  · intro h
    split at h
    · cases h
    · split at h
      · cases h
      · omega
  · rintro rfl
    simp
theorem compare_int (x y : Int) (w : World) : Calls Try.prog 68 #[.int .i64 x, .int .i64 y] w fun e w' => e = .returned (.int .i64 (cmpI x y)) ∧ w' = w := by
  have H1 := Lib.hid (Try.cmp_isNaN_int2 x w)
  have H2 := Lib.hid (Try.cmp_isNaN_int2 y w)
  unfold cmpI
  by_cases h1 : x < y
  · rw [if_pos h1]
    go_enter Try.func68, Try.ntmps68
    go_wp2_with fail
    refine H1.out.mono ?_
    rintro e w1 ⟨rfl, rfl⟩
    go_wp2_with fail
    refine H2.out.mono ?_
    rintro e w2 ⟨rfl, rfl⟩
    go_wp2_with fail
    go_ret
    exact ⟨rfl, rfl⟩
  · rw [if_neg h1]
    by_cases h2 : y < x
    · rw [if_pos h2]
      go_enter Try.func68, Try.ntmps68
      go_wp2_with fail
      refine H1.out.mono ?_
      rintro e w1 ⟨rfl, rfl⟩
      go_wp2_with fail
      refine H2.out.mono ?_
      rintro e w2 ⟨rfl, rfl⟩
      go_wp2_with fail
      go_ret
      exact ⟨rfl, rfl⟩
    · rw [if_neg h2]
      go_enter Try.func68, Try.ntmps68
      go_wp2_with fail
      refine H1.out.mono ?_
      rintro e w1 ⟨rfl, rfl⟩
      go_wp2_with fail
      refine H2.out.mono ?_
      rintro e w2 ⟨rfl, rfl⟩
      go_wp2_with fail
      go_ret
      exact ⟨rfl, rfl⟩
set_option maxRecDepth 100000 in
set_option maxHeartbeats 1600000 in
theorem compare_any {w : World} {x y : Nat} {p q : Pr} (x0 : w.cell? ⟨x, 0, none⟩ = some (.int .i64 p.a)) (x1 : w.cell? ⟨x, 1, none⟩ = some (.int .i64 p.b)) (y0 : w.cell? ⟨y, 0, none⟩ = some (.int .i64 q.a)) (y1 : w.cell? ⟨y, 1, none⟩ = some (.int .i64 q.b)) :
    Calls Try.prog 50 #[.slice (some ⟨x, 0, none⟩) 2 2, .slice (some ⟨y, 0, none⟩) 2 2] w fun e w' => e = .returned (.int .i64 (cmpP p q)) ∧ w' = w := by
  have HA := Lib.hid (compare_int p.a q.a w)
  have HB := Lib.hid (compare_int p.b q.b w)
  have HP : Hid (cmpP p q = if cmpI p.a q.a ≠ 0 then cmpI p.a q.a else cmpI p.b q.b) := Lib.hid rfl
  go_enter Try.func50, Try.ntmps50
  go_wp2_with fail
  go_loopw [11] (fun i wr => ∃ j : Nat, j ≤ 2 ∧ i = .int .i64 j ∧ wr = w ∧ Hid (1 ≤ j → cmpI p.a q.a = 0) ∧ Hid (2 ≤ j → cmpI p.b q.b = 0)) (fun i _ => 2 - (intOf i).toNat)
  case atStart => exact ⟨0, by omega, rfl, rfl, Lib.hid (fun h => by omega), Lib.hid (fun h => by omega)⟩
  case round =>
    obtain ⟨j, hj, rfl, rfl, H1, H2⟩ := hrel
    match j, hj with
    | 0, _ =>
      by_cases hc : cmpI p.a q.a = 0
      · rw [hc] at HA
        have HC := Lib.hid hc
        clear hc
        go_wp2_with fail
        refine HA.out.mono ?_
        rintro e w2 ⟨rfl, rfl⟩
        go_wp2_with fail
        exact ⟨⟨1, by omega, by go_num, by trivial, Lib.hid (fun _ => HC.out), Lib.hid (fun h => by omega)⟩, by simp [intOf]⟩
      · have HC := Lib.hid hc
        have hcb : (cmpI p.a q.a == 0) = false := by simp [hc]
        have HPP : Hid (cmpP p q = cmpI p.a q.a) := Lib.hid (by rw [HP.out, if_pos hc])
        generalize cmpI p.a q.a = E at *
        clear hc
        go_wp2_with fail
        refine HA.out.mono ?_
        rintro e w2 ⟨rfl, rfl⟩
        go_wp2_with fail
        go_ret
        exact ⟨by rw [HPP.out]; rfl, by first | rfl | trivial⟩
    | 1, _ =>
      have ha : cmpI p.a q.a = 0 := H1.out (by omega)
      by_cases hc : cmpI p.b q.b = 0
      · rw [hc] at HB
        have HC := Lib.hid hc
        have HAA := Lib.hid ha
        clear hc ha
        go_wp2_with fail
        refine HB.out.mono ?_
        rintro e w2 ⟨rfl, rfl⟩
        go_wp2_with fail
        exact ⟨⟨2, by omega, by go_num, by trivial, Lib.hid (fun _ => HAA.out), Lib.hid (fun _ => HC.out)⟩, by simp [intOf]⟩
      · have hcb : (cmpI p.b q.b == 0) = false := by simp [hc]
        have HPP : Hid (cmpP p q = cmpI p.b q.b) := Lib.hid (by rw [HP.out, ha]; rfl)
        generalize cmpI p.b q.b = E at *
        clear hc ha
        go_wp2_with fail
        refine HB.out.mono ?_
        rintro e w2 ⟨rfl, rfl⟩
        go_wp2_with fail
        go_ret
        exact ⟨by rw [HPP.out]; rfl, by first | rfl | trivial⟩
    | 2, _ =>
      have HPP : Hid (cmpP p q = 0) := Lib.hid (by rw [HP.out, H1.out (by omega), H2.out (by omega)]; rfl)
      go_wp2_with fail
      go_ret
      exact ⟨by rw [HPP.out]; rfl, by first | rfl | trivial⟩
def encP (p : Pr) : List Value := [.int .i64 p.a, .int .i64 p.b]
theorem swoP : SWO (ltOf cmpP) := by
  have hlt : ∀ p q : Pr, ltOf cmpP p q = true ↔ (p.a < q.a ∨ (p.a = q.a ∧ p.b < q.b)) := by
    intro p q
    unfold ltOf cmpP cmpI
    simp only [decide_eq_true_eq]
    split <;> split <;> (try split) <;> (try split) <;> omega
  have hlf : ∀ p q : Pr, ltOf cmpP p q = false ↔ ¬ (p.a < q.a ∨ (p.a = q.a ∧ p.b < q.b)) := fun p q => by
    rw [← hlt p q]
    simp
  refine ⟨fun x => ?_, fun x y z h1 h2 => ?_, fun x y z h1 h2 => ?_⟩
  · rw [hlf]
    omega
  · rw [hlt] at h1 h2 ⊢
    omega
  · rw [hlf] at h1 h2 ⊢
    omega
theorem grow_two (w : World) (a b : Obj) : ((w.alloc a).alloc b).drew = grow (w.drewN 1) #[a, b] := rfl
set_option maxRecDepth 100000 in
theorem linkcmp_any (p q : Pr) (w : World) :
    Calls Try.prog 49 #[.agg #[.int .i64 p.a, .int .i64 p.b], .agg #[.int .i64 q.a, .int .i64 q.b]] w fun e w' => e = .returned (.int .i64 (cmpP p q)) ∧ ∃ k os, w' = grow (w.drewN k) os := by
  obtain ⟨a, b⟩ := p
  obtain ⟨c, d⟩ := q
  have hs1 : (w.alloc (.cells #[.int .i64 a, .int .i64 b] 64)).heap.size = w.heap.size + 1 := by simp
  have hy := boxed (w.alloc (.cells #[.int .i64 a, .int .i64 b] 64)) (.int .i64 c) (.int .i64 d)
  have hx := boxed w (.int .i64 a) (.int .i64 b)
  have hb : Below (w.alloc (.cells #[.int .i64 a, .int .i64 b] 64)).heap.size (w.alloc (.cells #[.int .i64 a, .int .i64 b] 64)) ((w.alloc (.cells #[.int .i64 a, .int .i64 b] 64)).alloc (.cells #[.int .i64 c, .int .i64 d] 64)) := (Below.refl _ _).alloc (Nat.le_refl _) _
  have x0 := (hb.cell (p := ⟨w.heap.size, 0, none⟩) (by rw [hs1]; show w.heap.size < _; omega)).trans hx.1
  have x1 := (hb.cell (p := ⟨w.heap.size, 1, none⟩) (by rw [hs1]; show w.heap.size < _; omega)).trans hx.2
  rw [hs1] at hy
  have HC := Lib.hid (compare_any (w := ((w.alloc (.cells #[.int .i64 a, .int .i64 b] 64)).alloc (.cells #[.int .i64 c, .int .i64 d] 64)).drew) (x := w.heap.size) (y := w.heap.size + 1) (p := ⟨a, b⟩) (q := ⟨c, d⟩) x0 x1 hy.1 hy.2)
  clear hs1 hy hx hb x0 x1
  go_enter Try.func49, Try.ntmps49
  go_wp2_with fail
  go_region_law (rw [if_pos (by rfl)]; go_simp; go_at_call 50; refine HC.out.mono ?_; rintro e w3 ⟨rfl, rfl⟩)
  all_goals
    go_wp2_with fail
    go_ret
    exact ⟨rfl, 1, _, grow_two _ _ _⟩
end Go.Proofs.Ytfhlfklgngpklaa
