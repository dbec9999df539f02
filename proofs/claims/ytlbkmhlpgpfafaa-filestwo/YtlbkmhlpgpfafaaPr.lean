/-
  A disk and the reference's, side by side, from call to call.
-/
import Derived.Test.YtlbkmhlpgpfafaaRsC
import Derived.Test.YtlbkmhlpgpfafaaRsW
import Derived.Test.YtlbkmhlpgpfafaaRsA
import Derived.Test.YtlbkmhlpgpfafaaRsN
import Derived.Test.YtlbkmhlpgpfafaaRsM
import Derived.Test.YtlbkmhlpgpfafaaRsF
import Derived.Test.YtlbkmhlpgpfafaaRsR
import Derived.Test.YtlbkmhlpgpfafaaGivenB
namespace Go.Proofs.Ytlbkmhlpgpfafaa
open Go.RowKit Go.Maps Go.Joins
/-- Both of them; E holds at their blocks. -/
def Pr (B : Nat) (w : World) (d r : Nat) (S : PS) (E : Nat → Prop) : Prop :=
  B ≤ w.heap.size ∧ ∃ ow D, DK w d ow S ∧ RK w r S D ∧ (∀ k, D k → ow k = none) ∧ (∀ k, k < B → ow k = none ∧ ¬ D k) ∧ (∀ k, Ow ow k ∨ D k → E k)
section
variable {w w' : World} {d r B : Nat} {S : PS} {E : Nat → Prop}
theorem Pr.on (h : Pr B w d r S E) (hb : Below w.heap.size w w') : Pr B w' d r S E := by
  obtain ⟨hB, ow, D, h1, h2, h3, h4, h5⟩ := h
  exact ⟨Nat.le_trans hB hb.size, ow, D, h1.on hb, h2.on hb, h3, h4, h5⟩
theorem Pr.fr {E2 : Nat → Prop} (h : Pr B w d r S E) (f : Fr E2 w w') (hd : ∀ k, E k → ¬ E2 k) : Pr B w' d r S E := by
  obtain ⟨hB, ow, D, h1, h2, h3, h4, h5⟩ := h
  exact ⟨Nat.le_trans hB f.size, ow, D, h1.fr f (fun k hk => hd k (h5 k (Or.inl hk))), h2.fr f (fun k hk => hd k (h5 k (Or.inr hk))), h3, h4, h5⟩
theorem Pr.to {ow : Nat → Option Nat} {D : Nat → Prop} {S' : PS} (hB : B ≤ w.heap.size) (h4 : ∀ k, k < B → ow k = none ∧ ¬ D k) (h5 : ∀ k, Ow ow k ∨ D k → E k) (h : PTo w w' d r S' ow D) :
    ∃ E', Pr B w' d r S' E' ∧ (∀ k, E' k → E k ∨ w.heap.size ≤ k) ∧ Fr E w w' ∧ Below B w w' := by
  obtain ⟨ow', D', a, b, c, e, f⟩ := h
  refine ⟨fun k => Ow ow' k ∨ D' k, ⟨Nat.le_trans hB f.size, ow', D', a, b, c, fun k hk => ?_, fun _ h => h⟩, fun k hk => ?_, f.mono h5, f.below hB (fun k hk => ?_)⟩
  · have := e k (by omega)
    exact ⟨this.1.trans (h4 k hk).1, fun h => (h4 k hk).2 (this.2 h)⟩
  · rcases Nat.lt_or_ge k w.heap.size with hl | hl
    · refine Or.inl (h5 k ?_)
      rcases hk with hk | hk
      · refine Or.inl ?_
        unfold Ow at hk ⊢
        rw [← (e k hl).1]
        exact hk
      · exact Or.inr ((e k hl).2 hk)
    · exact Or.inr hl
  · rcases Nat.lt_or_ge k B with hl | hl
    · rcases hk with hk | hk
      · exact absurd (h4 k hl).1 hk
      · exact absurd hk (h4 k hl).2
    · exact hl
theorem amg8 (x : Int) : amg x 8 = 0 ∨ amg x 8 = 1 ∨ amg x 8 = 2 ∨ amg x 8 = 3 ∨ amg x 8 = 4 ∨ amg x 8 = 5 ∨ amg x 8 = 6 ∨ amg x 8 = 7 := by
  unfold amg
  omega
theorem Pr.step (h : Pr B w d r S E) (x : Ac) (hx : Go.Proofs.Ytlbkmhlpgpfafaa.B.okB B w x) :
    Calls Try.prog 11 #[.pointer (some ⟨d, 0, none⟩), .pointer (some ⟨r, 0, none⟩), .agg #[.int .i64 x.k, .string x.s, .string x.m, .int .i64 x.n, .slice x.a x.xs.length x.c]] w
      fun e w' => e = .returned (.bool true) ∧ ∃ S' E', Pr B w' d r S' E' ∧ (∀ k, E' k → E k ∨ w.heap.size ≤ k) ∧ Fr E w w' ∧ Below B w w' := by
  obtain ⟨hB, ow, D, h1, h2, h3, h4, h5⟩ := h
  obtain ⟨x1, x2, x3, x4, x5, x6, x7⟩ := hx
  have hs : x.s.size ≤ maxLen := by unfold maxLen; omega
  rcases amg8 x.k with hk | hk | hk | hk | hk | hk | hk | hk
  · exact (step_write h1 h2 h3 x.k x.n x.s x.m x.a _ x.c hk x5 x6).mono fun e w' ⟨a, b⟩ => ⟨a, _, Pr.to hB h4 h5 b⟩
  · exact (step_append h1 h2 h3 x.k x.n x.s x.m x.a _ x.c hk x5 x6).mono fun e w' ⟨a, b⟩ => ⟨a, _, Pr.to hB h4 h5 b⟩
  · exact (step_sync h1 h2 h3 x.k x.n x.s x.m x.a _ x.c hk hs).mono fun e w' ⟨a, b⟩ => ⟨a, _, Pr.to hB h4 h5 b⟩
  · exact (step_rename h1 h2 h3 x.k x.n x.s x.m x.a _ x.c hk hs).mono fun e w' ⟨a, b⟩ => ⟨a, _, Pr.to hB h4 h5 b⟩
  · exact (step_remove h1 h2 h3 x.k x.n x.s x.m x.a _ x.c hk hs).mono fun e w' ⟨a, b⟩ => ⟨a, _, Pr.to hB h4 h5 b⟩
  · exact (step_read h1 h2 h3 x.k x.n x.s x.m x.a _ x.c hk hs).mono fun e w' ⟨a, b⟩ => ⟨a, _, Pr.to hB h4 h5 b⟩
  · exact (step_fuse h1 h2 h3 x.k x.n x.s x.m x.a _ x.c hk x7).mono fun e w' ⟨a, b⟩ => ⟨a, _, Pr.to hB h4 h5 b⟩
  · exact (step_crash h1 h2 h3 hB h4 x.k x.n x.s x.m x.a x.xs x.c hk x1 x2 x3 x4).mono fun e w' ⟨a, b⟩ => ⟨a, _, Pr.to hB h4 h5 b⟩
theorem Pr.alike (h : Pr B w d r S E) :
    Calls Try.prog 12 #[.pointer (some ⟨d, 0, none⟩), .pointer (some ⟨r, 0, none⟩)] w fun e w' => e = .returned (.bool true) ∧ Pr B w' d r S E ∧ Below w.heap.size w w' := by
  have hs := h
  obtain ⟨hB, ow, D, h1, h2, h3, h4, h5⟩ := h
  exact (same_any h1 h2).mono fun e w' ⟨a, b⟩ => ⟨a, hs.on b, b⟩
theorem Pr.first {ow : Nat → Option Nat} {D : Nat → Prop} {w1 w2 : World} (hd : DK w1 d ow S0) (ho : ∀ k, Ow ow k → w.heap.size ≤ k) (hb1 : Below w.heap.size w w1) (hr : RK w2 r S0 D) (hD : ∀ k, D k → w1.heap.size ≤ k) (hb2 : Below w1.heap.size w1 w2) :
    Pr w.heap.size w2 d r S0 (fun k => Ow ow k ∨ D k) := by
  have := hb1.size
  have := hb2.size
  refine ⟨by omega, ow, D, hd.on hb2, hr, fun k hk => ?_, fun k hk => ⟨?_, fun h => ?_⟩, fun _ h => h⟩
  · exact hd.out (hD k hk)
  · cases hq : ow k with
    | none => rfl
    | some y => exact absurd (ho k (by unfold Ow; rw [hq]; simp)) (by omega)
  · have := hD k h
    omega
end
theorem names17_any (w : World) : Calls Try.prog 10 #[] w fun e w' => e = .returned (.bool true) ∧ w' = w := by
  go_enter Try.func10, Try.ntmps10
  go_wp2_with fail
  go_ret
  exact ⟨rfl, rfl⟩
end Go.Proofs.Ytlbkmhlpgpfafaa
