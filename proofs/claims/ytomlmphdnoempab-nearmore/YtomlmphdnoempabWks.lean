/-
  The chapter's first example holds.
-/
import Derived.Test.YtomlmphdnoempabBetween
import Derived.Test.YtomlmphdnoempabWorks
namespace Go.Proofs.Ytomlmphdnoempab
open Go.RowKit
open Hp (HR HRto Fr upd upd_self upd_ne TopIs)
theorem ex_rg : RG 3 exA := by
  refine ⟨by omega, by omega, by decide, ?_, ?_⟩
  · intro x hx
    simp [exA] at hx
    rcases hx with rfl | rfl | rfl <;> simp
  · intro x hx
    simp [exA] at hx
    rcases hx with rfl | rfl | rfl <;> simp
/-- Heights that no arc overcomes tell a least length. -/
theorem Wk.height {l : List A} {ok : Nat → Bool} {s v : Nat} {d : Int} (φ : Nat → Int) (h : ∀ x ∈ l, φ (dst x) ≤ φ (src x) + x.w) (w : Wk l ok s v d) : φ v ≤ φ s + d := by
  induction w with
  | nil _ => omega
  | snoc hx _ _ ih => have := h _ hx; omega
def exH : Nat → Int := fun v => if v = 0 then 0 else if v = 1 then 5 else 12
theorem ex_height : ∀ x ∈ exA, exH (dst x) ≤ exH (src x) + x.w := by
  intro x hx
  simp [exA] at hx
  rcases hx with rfl | rfl | rfl <;> simp [exH, dst, src]
theorem ex_walk : Wk exA Al 0 2 12 := by
  have h1 : Wk exA Al 0 1 5 := by simpa [dst] using Wk.snoc (l := exA) (ok := Al) (s := 0) (x := ⟨0, 1, 5⟩) (d := 0) (by simp [exA]) (Wk.nil rfl) rfl
  simpa [dst] using Wk.snoc (l := exA) (ok := Al) (s := 0) (x := ⟨1, 2, 7⟩) (d := 5) (by simp [exA]) h1 rfl
theorem ex_t {d : Int} (h : IsT exA 0 2 d) : d = 12 := by
  have h1 := h.le _ ex_walk
  have h2 := (h.wk (by unfold Inf; omega)).height exH ex_height
  simp [exH] at h2
  omega
theorem ex_no {d : Int} : ¬ Wk exA Al 2 0 d := by
  intro h
  have : ∀ {v d}, Wk exA Al 2 v d → v ≠ 0 := by
    intro v d h
    cases h with
    | nil _ => omega
    | snoc hx _ _ =>
      simp [exA] at hx
      rcases hx with rfl | rfl | rfl <;> simp [dst]
  exact this h rfl
theorem ex_inf {d : Int} (h : IsT exA 2 0 d) : d = 18446744073709551615 := by
  have h1 := h.hi
  by_cases e : d < Inf
  · exact absurd (h.wk e) ex_no
  · unfold Inf at *; omega
theorem plen_lo {l : List A} {s v : Nat} {p : List Nat} (hw : ∀ x ∈ l, 0 ≤ x.w) (h : Pth l s v p) : 0 ≤ plen l p := by
  induction h with
  | nil => simp [plen]
  | snoc h1 _ _ ih => rw [plen_snoc]; have := hw _ (ar_mem h1); omega
theorem ex_path {p : List Nat} (h : Pth exA 0 2 p) (hl : plen exA p = 12) : p = [0, 1] := by
  have hw : ∀ x ∈ exA, 0 ≤ x.w := fun x hx => (ex_rg.wt x hx).1
  have key : ∀ {v : Nat} {p : List Nat}, Pth exA 0 v p → (v = 0 → p = []) ∧ (v = 1 → p = [0]) ∧ (v = 2 → plen exA p = 12 → p = [0, 1]) := by
    intro v p h
    induction h with
    | nil => exact ⟨fun _ => rfl, fun e => by omega, fun e => by omega⟩
    | @snoc u j q h1 h2 h3 ih =>
      have hj : j < 3 := h1
      match j, hj with
      | 0, _ =>
        have e1 : dst (ar exA 0) = 1 := by decide
        have e2 : src (ar exA 0) = 0 := by decide
        rw [e1]
        refine ⟨fun e => by omega, fun _ => ?_, fun e => by omega⟩
        rw [ih.1 (by rw [← h2, e2])]; rfl
      | 1, _ =>
        have e1 : dst (ar exA 1) = 2 := by decide
        have e2 : src (ar exA 1) = 1 := by decide
        rw [e1]
        refine ⟨fun e => by omega, fun e => by omega, fun _ _ => ?_⟩
        rw [ih.2.1 (by rw [← h2, e2])]; rfl
      | 2, _ =>
        have e1 : dst (ar exA 2) = 2 := by decide
        have e3 : (ar exA 2).w = 20 := by decide
        rw [e1]
        refine ⟨fun e => by omega, fun e => by omega, fun _ e => ?_⟩
        rw [plen_snoc, e3] at e
        have := plen_lo hw h3
        omega
  exact (key h).2.2 rfl hl
theorem ex_e1 : nearE 3 exA [0] = 0 := by decide
theorem ex_e2 : nearE 3 exA [0, 2] = 0 := by decide
theorem ex_e3 : nearE 3 exA [2, 0] = 0 := by decide
set_option maxHeartbeats 1600000 in
set_option maxRecDepth 100000 in
theorem works_any (w : World) : Calls Try.prog 5 #[] w fun e w' => e = .returned (.bool true) ∧ Below w.heap.size w w' := by
  have hA0 := exA_at w
  have hb0 : Below w.heap.size w (w.alloc (.cells #[.int .i64 0, .int .i64 1, .int .u32 5, .int .i64 1, .int .i64 2, .int .u32 7, .int .i64 0, .int .i64 2, .int .u32 20] 40)) := (Below.refl _ _).alloc (Nat.le_refl _) _
  generalize hW : w.alloc (.cells #[.int .i64 0, .int .i64 1, .int .u32 5, .int .i64 1, .int .i64 2, .int .u32 7, .int .i64 0, .int .i64 2, .int .u32 20] 40) = W at *
  go_enter Try.func5, Try.ntmps5
  go_wp2_with fail
  have hsW : w.heap.size < W.heap.size := by rw [← hW]; simp
  clear hW
  have hb1 := hb0.alloc (by omega) (.cells #[.int .i64 3, .slice (some ⟨w.heap.size, 0, none⟩) 3 3] 24)
  have hA1 := hA0.on ((Below.refl W.heap.size W).alloc (Nat.le_refl _) (.cells #[.int .i64 3, .slice (some ⟨w.heap.size, 0, none⟩) 3 3] 24))
  refine (from_ok 3 (some ⟨w.heap.size, 0, none⟩) exA 3 0 _ ex_rg (by omega) ex_e1 hA1).mono ?_
  rintro e w2 ⟨bf, rfl, F, htf, hisd, _, hbf, hb2⟩
  have hF : F 2 = 12 := ex_t (hisd.at 2)
  have hg2 := (hb2.block W.heap.size (by simp)).trans (heap_top W _)
  obtain ⟨⟨g0, g1⟩, -⟩ := two_cells hg2
  have hA2 := hA1.on hb2
  have B2 := hb1.trans (hb2.mono hb1.size)
  have f2 := htf.cell (v := 2) (by omega)
  rw [hF] at f2
  have z2 := htf.lt
  clear hF hisd
  go_wp2_with fail
  refine (walk_ok 3 (some ⟨w.heap.size, 0, none⟩) exA 3 0 2 _ ex_rg (by omega) (by omega) ex_e2 hA2).mono ?_
  rintro e w3 ⟨v, d, rfl, hit, hb3, hor⟩
  obtain rfl := ex_t hit
  rcases hor with ⟨h', _⟩ | ⟨_, p, hp, hpl, _, hown, _⟩
  · unfold Inf at h'; omega
  obtain rfl := ex_path hp hpl
  have hvn : v ≠ .slice none 0 0 := by
    intro h
    rcases hown.2 with ⟨_, h2⟩ | ⟨g, c', cur, h', _⟩
    · simp at h2
    · rw [h] at h'; cases h'
  obtain ⟨gg, cc, rfl, _, _, hgs, _⟩ := own_shape hown hvn
  have l0 := World.ownsRow.cellAt hown 0 (by simp)
  have l0' : w3.cell? ⟨gg, 0, none⟩ = some (.int .i64 0) := l0
  have hg3 := (hb3.block _ (lt_of_block hg2)).trans hg2
  have f3 := (hb3.cell (p := ⟨bf, 2, none⟩) z2).trans f2
  have hA3 := hA2.on hb3
  have B3 := B2.trans (hb3.mono B2.size)
  have z3 := Nat.lt_of_lt_of_le z2 hb3.size
  clear g0 g1 l0 hown hvn hp hpl hit
  obtain ⟨⟨g0, g1⟩, -⟩ := two_cells hg3
  go_wp2_with fail
  refine (between_ok 3 (some ⟨w.heap.size, 0, none⟩) exA 3 2 0 _ ex_rg (by omega) (by omega) ex_e3 (fun h => by cases h) hA3).mono ?_
  rintro e w4 ⟨d, rfl, hit, hb4⟩
  obtain rfl := ex_inf hit
  have f4 := (hb4.cell (p := ⟨bf, 2, none⟩) z3).trans f3
  have l4 := (hb4.cell (p := ⟨gg, 0, none⟩) hgs).trans l0'
  have B4 := B3.trans (hb4.mono B3.size)
  clear g0 g1 f2 f3 l0' hit
  go_wp2_with fail
  go_ret
  exact ⟨rfl, B4⟩
end Go.Proofs.Ytomlmphdnoempab
