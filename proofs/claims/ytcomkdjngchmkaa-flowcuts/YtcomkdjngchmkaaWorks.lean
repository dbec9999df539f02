/-
  The chapter's first example, and whether a network is large.
-/
import Derived.Test.YtcomkdjngchmkaaCut
namespace Go.Proofs.Ytcomkdjngchmkaa
open Go.RowKit
set_option maxHeartbeats 400000 in
theorem large_any (N : Int) (a : Option Addr) (m cap : Nat) (w : World) :
    Calls Try.prog 9 #[.agg #[.int .i64 N, .slice a m cap]] w fun e w' => e = .returned (.bool (decide (400 < m ∧ 60 < N))) ∧ Below w.heap.size w w' := by
  by_cases h1 : 400 < m
  · have h1' : (400 : Int) < m := by omega
    by_cases h2 : 60 < N
    · rw [show decide (400 < m ∧ 60 < N) = true by simp [h1, h2]]
      go_enter Try.func9, Try.ntmps9
      go_wp2_with fail
      go_ret
      exact ⟨rfl, (Below.refl _ _).alloc (Nat.le_refl _) _⟩
    · rw [show decide (400 < m ∧ 60 < N) = false by simp [h2]]
      go_enter Try.func9, Try.ntmps9
      go_wp2_with fail
      go_ret
      exact ⟨rfl, (Below.refl _ _).alloc (Nat.le_refl _) _⟩
  · have h1' : ¬ (400 : Int) < m := by omega
    rw [show decide (400 < m ∧ 60 < N) = false by simp [h1]]
    go_enter Try.func9, Try.ntmps9
    go_wp2_with fail
    go_ret
    exact ⟨rfl, (Below.refl _ _).alloc (Nat.le_refl _) _⟩
def exE : List A := [⟨0, 1, 3⟩, ⟨1, 2, 2⟩, ⟨0, 2, 1⟩]
theorem exE_fl : flE 3 exE 0 2 = 0 := by decide
theorem exE_ok : Ok 3 exE 0 2 3 0 2 := by
  obtain ⟨n, u, v, h⟩ := flE_ok exE_fl (by intro x hx; simp [exE] at hx; rcases hx with rfl | rfl | rfl <;> decide)
  have h1 := h.hn
  have h2 := h.hs
  have h3 := h.ht
  obtain rfl : n = 3 := by omega
  obtain rfl : u = 0 := by omega
  obtain rfl : v = 2 := by omega
  exact h
theorem exE_edl : edl exE = [⟨0, 1, 3⟩, ⟨1, 2, 2⟩, ⟨0, 2, 1⟩] := rfl
theorem ex_math {fl rk : Nat → Int} (hF : Flow 3 (edl exE) 0 2 fl) (hR : Rk 3 3 (edl exE) fl 1 0 2 rk) (ht : rk 2 = -1) : net (edl exE) fl 0 3 = 3 ∧ fl 1 = 2 ∧ side rk 1 = true ∧ side rk 2 = false ∧ (hits (outQ (edl exE) (side rk)) 3).length = 2 := by
  have hE := hR.stop hF (by decide) ht
  have s0 := hE.rs
  have s2 := hE.rt
  have f0 := hE.full 0 (by decide)
  have f1 := hE.full 1 (by decide)
  have f2 := hE.full 2 (by decide)
  have hi1 := hF.hi 1 (by decide)
  have mid := hF.mid 1 (by decide) (by decide) (by decide)
  have e0 : ed (edl exE) 0 = ⟨0, 1, 3⟩ := by rw [exE_edl]; rfl
  have e1 : ed (edl exE) 1 = ⟨1, 2, 2⟩ := by rw [exE_edl]; rfl
  have e2 : ed (edl exE) 2 = ⟨0, 2, 1⟩ := by rw [exE_edl]; rfl
  have hl : (edl exE).length = 3 := by decide
  rw [e0] at f0
  rw [e1] at f1 hi1
  rw [e2] at f2
  rw [hl] at mid
  simp only [net, e0, e1, e2] at mid ⊢
  simp only at f0 f1 f2 hi1
  simp at mid
  have h2 := f2.1 s0 s2
  have s1 : side rk 1 = true := by
    cases h : side rk 1 with
    | true => rfl
    | false =>
      have := f0.1 s0 h
      omega
  have h1 := f1.1 s1 s2
  refine ⟨?_, h1, s1, s2, ?_⟩
  · simp
    omega
  · simp [hits, outQ, e0, e1, e2, s0, s1, s2]
theorem ex_arcs {w : World} {g : Nat} (h : w.heap[g]? = some (.cells #[.int .i64 0, .int .i64 1, .int .u32 3, .int .i64 1, .int .i64 2, .int .u32 2, .int .i64 0, .int .i64 2, .int .u32 1] 52)) : Arcs w (some ⟨g, 0, none⟩) exE := by
  refine Or.inr ⟨g, 0, rfl, lt_of_block h, fun j hj => ?_⟩
  have hj3 : j < 3 := hj
  have hc : j = 0 ∨ j = 1 ∨ j = 2 := by omega
  rcases hc with rfl | rfl | rfl <;> (unfold A.at; simp [World.cell?, h, exE])
set_option maxHeartbeats 1600000 in
set_option maxRecDepth 100000 in
theorem works_any (w : World) : Calls Try.prog 10 #[] w fun e w' => e = .returned (.bool true) ∧ Below w.heap.size w w' := by
  go_enter Try.func10, Try.ntmps10
  go_wp2_with fail
  have hW1 := heap_top w (.cells #[.int .i64 0, .int .i64 1, .int .u32 3, .int .i64 1, .int .i64 2, .int .u32 2, .int .i64 0, .int .i64 2, .int .u32 1] 52)
  have hB1 : Below w.heap.size w (w.alloc (.cells #[.int .i64 0, .int .i64 1, .int .u32 3, .int .i64 1, .int .i64 2, .int .u32 2, .int .i64 0, .int .i64 2, .int .u32 1] 52)) := (Below.refl _ _).alloc (Nat.le_refl _) _
  have hs1 : (w.alloc (.cells #[.int .i64 0, .int .i64 1, .int .u32 3, .int .i64 1, .int .i64 2, .int .u32 2, .int .i64 0, .int .i64 2, .int .u32 1] 52)).heap.size = w.heap.size + 1 := by simp
  generalize w.alloc (.cells #[.int .i64 0, .int .i64 1, .int .u32 3, .int .i64 1, .int .i64 2, .int .u32 2, .int .i64 0, .int .i64 2, .int .u32 1] 52) = W1 at *
  have hG2 := heap_top W1 (.cells #[.int .i64 3, .slice (some ⟨w.heap.size, 0, none⟩) 3 3] 24)
  have hB2 : Below W1.heap.size W1 (W1.alloc (.cells #[.int .i64 3, .slice (some ⟨w.heap.size, 0, none⟩) 3 3] 24)) := (Below.refl _ _).alloc (Nat.le_refl _) _
  have hA := (ex_arcs hW1).on hB2
  rw [hs1] at hG2
  have hBW : Below w.heap.size w (W1.alloc (.cells #[.int .i64 3, .slice (some ⟨w.heap.size, 0, none⟩) 3 3] 24)) := hB1.trans (hB2.mono (by omega))
  generalize W1.alloc (.cells #[.int .i64 3, .slice (some ⟨w.heap.size, 0, none⟩) 3 3] 24) = W2 at *
  refine (max_ok 3 (some ⟨w.heap.size, 0, none⟩) exE 3 W2 0 2 hA exE_fl exE_ok).mono ?_
  rintro e w3 ⟨fl, rk, bf, rfl, hFl, hRk, hrt, hT, hbf, hb3⟩
  obtain ⟨m1, m2, -, -, -⟩ := ex_math hFl hRk hrt
  have c1 := hT.cell (v := 1) (by decide)
  rw [m2] at c1
  have hG3 := (hb3.block _ (lt_of_block hG2)).trans hG2
  obtain ⟨⟨g0, g1⟩, gf0, gf1⟩ := two_cells hG3
  have hL3 : net (edl exE) fl 0 (edl exE).length = 3 := m1
  rw [hL3]
  have hm : exE.length = 3 := rfl
  rw [hm]
  have HC := Lib.hid (cut_ok 3 (some ⟨w.heap.size, 0, none⟩) exE 3 w3 0 2 (hA.on hb3) exE_fl exE_ok)
  have HB3 := Lib.hid (hBW.trans (hb3.mono (by have := lt_of_block hG2; omega)))
  have HTL := Lib.hid hT.lt
  clear hL3 hm m1 m2 hFl hRk hrt hT hbf hA hB1 hB2 hBW hs1 hW1
  go_wp2_with fail
  refine HC.out.mono ?_
  rintro e w4 ⟨fl2, rk2, bs, ve, rfl, hFl, hRk, hrt, hT, hown, hnil, hbs, hb4⟩
  obtain ⟨m1, m2, m3, m4, m5⟩ := ex_math hFl hRk hrt
  have c2 := hT.cell (v := 1) (by decide)
  have c3 := hT.cell (v := 2) (by decide)
  rw [m3] at c2
  rw [m4] at c3
  have c4 := (hb4.cell (p := ⟨bf, 1, none⟩) HTL.out).trans c1
  obtain ⟨av, cv, rfl⟩ := own_slice hown
  have m5' : (hits (outQ (edl exE) (side rk2)) exE.length).length = 2 := m5
  rw [m5', show net (edl exE) fl2 0 (edl exE).length = 3 from m1]
  have HB4 := Lib.hid (HB3.out.trans (hb4.mono (by have := lt_of_block hG3; omega)))
  clear hFl hRk hrt hT hown hnil hbs hb4 m1 m2 m3 m4 m5 m5'
  go_wp2_with fail
  go_ret
  exact ⟨rfl, HB4.out⟩
end Go.Proofs.Ytcomkdjngchmkaa
