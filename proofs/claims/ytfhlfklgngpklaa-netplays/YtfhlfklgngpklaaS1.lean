/-
  The same letters, the same timers, the same links.
-/
import Derived.Test.YtfhlfklgngpklaaM3
namespace Go.Proofs.Ytfhlfklgngpklaa
open Go.RowKit Go.Maps
set_option maxRecDepth 100000 in
set_option maxHeartbeats 1600000 in
theorem texts_any {w : World} {B1 B2 : Nat} {v1 v2 : Value} (T : List ByteArray) (h1 : w.ownsRow B1 9 1 v1 T.length (strs T)) (h2 : w.ownsRow B2 9 1 v2 T.length (strs T)) (hT : T.length ≤ 1000000) :
    Calls Try.prog 31 #[v1, v2] w fun e w' => e = .returned (.bool true) ∧ Below w.heap.size w w' := by
  obtain ⟨a1, c1, e1⟩ := own_slice h1
  obtain ⟨a2, c2, e2⟩ := own_slice h2
  subst e1 e2
  have H1 := Lib.hid h1
  have H2 := Lib.hid h2
  obtain ⟨N, HN⟩ := named T.length
  rw [HN.out] at hT ⊢
  clear h1 h2
  go_enter Try.func31, Try.ntmps31
  go_wp2_with fail
  go_loopw [5] (fun i wr => ∃ j q : Nat, j ≤ N ∧ i = .int .i64 j ∧ wr = w.drewN q) (fun i _ => N - (intOf i).toNat)
  case atStart => exact ⟨0, 0, Nat.zero_le _, rfl, rfl⟩
  case round =>
    obtain ⟨j, q, hj, rfl, rfl⟩ := hrel
    by_cases hlt : j < N
    · have hjl : j < T.length := by rw [HN.out]; exact hlt
      obtain ⟨g1, c1', e1⟩ := own_form H1.out (by omega)
      obtain ⟨g2, c2', e2⟩ := own_form H2.out (by omega)
      injection e1 with e1 _ e3
      injection e2 with e2 _ e4
      subst e1 e3 e2 e4
      have p1 := (H1.out.cellAt j (by omega)).trans (strs_at T j hjl)
      have p2 := (H2.out.cellAt j (by omega)).trans (strs_at T j hjl)
      generalize T.getD j ⟨#[]⟩ = s at *
      go_wp2_with fail
      go_quiet (fail)
      go_wp2_with fail
      exact ⟨⟨j + 1, _, by omega, by go_num, rfl⟩, by simp [intOf]; omega⟩
    · go_wp2_with fail
      go_ret
      exact ⟨rfl, belowN (Below.refl _ _) _⟩
set_option maxRecDepth 100000 in
set_option maxHeartbeats 1600000 in
theorem timers_any {w : World} {B1 B2 : Nat} {v1 v2 : Value} (T : List Tm) (h1 : w.ownsRow B1 53 3 v1 T.length (tmC T)) (h2 : w.ownsRow B2 53 3 v2 T.length (tmC T)) (hT : T.length ≤ 1000000) :
    Calls Try.prog 36 #[v1, v2] w fun e w' => e = .returned (.bool true) ∧ Below w.heap.size w w' := by
  obtain ⟨a1, c1, e1⟩ := own_slice h1
  obtain ⟨a2, c2, e2⟩ := own_slice h2
  subst e1 e2
  have H1 := Lib.hid h1
  have H2 := Lib.hid h2
  obtain ⟨N, HN⟩ := named T.length
  rw [HN.out] at hT ⊢
  clear h1 h2
  go_enter Try.func36, Try.ntmps36
  go_wp2_with fail
  go_loopw [5] (fun i wr => ∃ j q : Nat, j ≤ N ∧ i = .int .i64 j ∧ wr = w.drewN q) (fun i _ => N - (intOf i).toNat)
  case atStart => exact ⟨0, 0, Nat.zero_le _, rfl, rfl⟩
  case round =>
    obtain ⟨j, q, hj, rfl, rfl⟩ := hrel
    by_cases hlt : j < N
    · have hjl : j < T.length := by rw [HN.out]; exact hlt
      obtain ⟨g1, c1', e1⟩ := own_form H1.out (by omega)
      obtain ⟨g2, c2', e2⟩ := own_form H2.out (by omega)
      injection e1 with e1 _ e3
      injection e2 with e2 _ e4
      subst e1 e3 e2 e4
      obtain ⟨t0, t1, t2⟩ := tm_cells T j hjl
      have p0 := (H1.out.cellAt (j * 3) (by omega)).trans t0
      have p1 := (H1.out.cellAt (j * 3 + 1) (by omega)).trans t1
      have p2 := (H1.out.cellAt (j * 3 + 2) (by omega)).trans t2
      have q0 := (H2.out.cellAt (j * 3) (by omega)).trans t0
      have q1 := (H2.out.cellAt (j * 3 + 1) (by omega)).trans t1
      have q2 := (H2.out.cellAt (j * 3 + 2) (by omega)).trans t2
      clear t0 t1 t2
      generalize (T[j]).nd = x at *
      generalize (T[j]).at_ = y at *
      generalize (T[j]).tg = z at *
      go_wp2_with fail
      go_quiet (fail)
      go_wp2_with fail
      exact ⟨⟨j + 1, _, by omega, by go_num, rfl⟩, by simp [intOf]; omega⟩
    · go_wp2_with fail
      go_ret
      exact ⟨rfl, belowN (Below.refl _ _) _⟩
theorem names_any (w : World) : Calls Try.prog 10 #[] w fun e w' => e = .returned (.bool true) ∧ w' = w := by
  go_enter Try.func10, Try.ntmps10
  go_wp2_with fail
  go_ret
  exact ⟨rfl, rfl⟩
end Go.Proofs.Ytfhlfklgngpklaa
