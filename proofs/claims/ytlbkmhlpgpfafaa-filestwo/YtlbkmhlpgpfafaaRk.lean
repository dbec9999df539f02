/-
  The book's SameTexts, at the same ones: true.
-/
import Derived.Test.YtlbkmhlpgpfafaaRj
namespace Go.Proofs.Ytlbkmhlpgpfafaa
open Go.RowKit Go.Maps Go.Joins
set_option maxHeartbeats 1600000 in
theorem sameTexts_any {w : World} {B1 B2 : Nat} {v1 v2 : Value} (T : List (List UInt8)) (h1 : w.ownsRow B1 9 1 v1 T.length (namesC T)) (h2 : w.ownsRow B2 9 1 v2 T.length (namesC T)) (hT : T.length ≤ 1000) :
    Calls Try.prog 36 #[v1, v2] w fun e w' => e = .returned (.bool true) ∧ Below w.heap.size w w' := by
  obtain ⟨a1, c1, e1⟩ : ∃ a c, v1 = .slice a T.length c := by
    rcases h1.2 with ⟨rfl, hh⟩ | ⟨g, c, cur, rfl, _⟩
    · exact ⟨none, 0, by rw [hh]⟩
    · exact ⟨_, c, rfl⟩
  obtain ⟨a2, c2, e2⟩ : ∃ a c, v2 = .slice a T.length c := by
    rcases h2.2 with ⟨rfl, hh⟩ | ⟨g, c, cur, rfl, _⟩
    · exact ⟨none, 0, by rw [hh]⟩
    · exact ⟨_, c, rfl⟩
  have H1 := Lib.hid h1
  have H2 := Lib.hid h2
  obtain ⟨N, HN⟩ := named T.length
  rw [HN.out] at H1 H2 e1 e2 hT
  subst e1 e2
  clear h1 h2
  go_enter Try.func36, Try.ntmps36
  go_wp2_with fail
  go_loopw [5] (fun i wr => ∃ j n : Nat, j ≤ N ∧ i = .int .i64 j ∧ wr = w.drewN n) (fun i _ => N - (intOf i).toNat)
  case atStart => exact ⟨0, 0, Nat.zero_le _, rfl, rfl⟩
  case round =>
    obtain ⟨j, n, hj, rfl, rfl⟩ := hrel
    by_cases hlt : j < N
    · have hjT : j < T.length := by rw [HN.out]; exact hlt
      obtain ⟨g1, k1, e1⟩ := ownsRow_form H1.out (show 0 < N by omega)
      obtain ⟨g2, k2, e2⟩ := ownsRow_form H2.out (show 0 < N by omega)
      injection e1 with e11 _ e13
      injection e2 with e21 _ e23
      subst e11 e13 e21 e23
      have q1 : (w.drewN n).cell? ⟨g1, j, none⟩ = some (.string ⟨(T[j]).toArray⟩) := (H1.out.cellAt j (by omega)).trans (namesC_at T j hjT)
      have q2 : (w.drewN n).cell? ⟨g2, j, none⟩ = some (.string ⟨(T[j]).toArray⟩) := (H2.out.cellAt j (by omega)).trans (namesC_at T j hjT)
      generalize (⟨(T[j]).toArray⟩ : ByteArray) = s at *
      generalize hW : w.drewN n = W at *
      have HW := Lib.hid hW
      clear hW
      go_wp2_with fail
      go_quiet (fail)
      go_wp2_with fail
      exact ⟨⟨j + 1, _, by omega, by go_num, by rw [← HW.out]; exact World.drewN_drewN _ _ _⟩, by simp [intOf]; omega⟩
    · go_wp2_with fail
      go_ret
      exact ⟨rfl, below_drewN (Below.refl _ _) _⟩
end Go.Proofs.Ytlbkmhlpgpfafaa
