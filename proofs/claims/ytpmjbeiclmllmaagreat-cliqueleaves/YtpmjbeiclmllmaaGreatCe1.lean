/-
  Contracts of cell's labels: hold, part.
-/
import Derived.Test.YtpmjbeiclmllmaaGreatCeM
namespace Go.Proofs.YtpmjbeiclmllmaaGreat
open Go.RowKit
def A.val (x : A) : Value := .agg #[.int .i64 x.f, .int .i64 x.t, .int .u32 x.w]
def A.obj (x : A) : Obj := .cells #[.int .i64 x.f, .int .i64 x.t, .int .u32 x.w] 68
theorem dec_ne (a b : Int) : decide (a ≠ b) = (a != b) := by
  by_cases h : a = b <;> simp [h]
/-- Both ends of an arc are among some vertices. -/
def inA (m : Nat) (x : A) : Prop := (0 ≤ x.f ∧ x.f < m) ∧ (0 ≤ x.t ∧ x.t < m)
set_option maxRecDepth 100000 in
set_option maxHeartbeats 1600000 in
theorem ceHold_any (a : Option Addr) (L : List Int) (c : Nat) (q : Int) (x : A) (w : World) (hx : inA L.length x) (hL : L.length ≤ 1024) (hi : Ints w a L) :
    Calls Tryz.prog 56 #[.slice a L.length c, .int .i64 q, .agg #[.int .i64 x.f, .int .i64 x.t, .int .u32 x.w]] w fun e w' => e = .returned (.bool (hld L q x)) ∧ Below w.heap.size w w' := by
  have hb0 : Below w.heap.size w (w.alloc (.cells #[.int .i64 x.f, .int .i64 x.t, .int .u32 x.w] 68)) := (Below.refl _ _).alloc (Nat.le_refl _) _
  have hg := heap_top w (.cells #[.int .i64 x.f, .int .i64 x.t, .int .u32 x.w] 68)
  obtain ⟨c0, c1, c2⟩ := three_cells hg
  obtain ⟨⟨x0, x1⟩, x2, x3⟩ := hx
  obtain ⟨ix, ox, hix⟩ := (hi.on hb0).get
  obtain ⟨rfl, _, hat⟩ := hix (by omega)
  obtain ⟨u, hu⟩ : ∃ u : Nat, x.f = u := ⟨x.f.toNat, by omega⟩
  obtain ⟨v, hv⟩ : ∃ v : Nat, x.t = v := ⟨x.t.toNat, by omega⟩
  have d1 := hat u (by omega)
  have d2 := hat v (by omega)
  have HB0 := Lib.hid hb0
  have hu' : (u : Int) < L.length := by omega
  have hv' : (v : Int) < L.length := by omega
  have HV : Hid (hld L q x = decide (L.getD u 0 = q ∧ L.getD v 0 = q)) := by
    show _ = _
    unfold hld lb
    rw [hu, hv, Int.toNat_natCast, Int.toNat_natCast]
  rw [HV.out]
  rw [hu, hv] at c0 c1 c2 hg HB0
  rw [hu, hv] at d1 d2
  rw [hu, hv]
  generalize x.w = xw at *
  generalize L.getD u 0 = y at *
  generalize L.getD v 0 = z at *
  clear hix hat hi hg hb0 HV
  generalize hp : w.heap.size = p at *
  by_cases h1 : y = q
  · have e1 : (y == q) = true := by simpa using h1
    by_cases h2 : z = q
    · have e2 : (z == q) = true := by simpa using h2
      rw [decide_eq_true ⟨h1, h2⟩]
      clear h1 h2
      go_enter Tryz.func56, Tryz.ntmps56
      go_wp2_with fail
      go_ret
      exact ⟨rfl, HB0.out⟩
    · have e2 : (z == q) = false := by simpa using h2
      rw [decide_eq_false (fun h => h2 h.2)]
      clear h1 h2
      go_enter Tryz.func56, Tryz.ntmps56
      go_wp2_with fail
      go_ret
      exact ⟨rfl, HB0.out⟩
  · have e1 : (y == q) = false := by simpa using h1
    rw [decide_eq_false (fun h => h1 h.1)]
    clear h1
    go_enter Tryz.func56, Tryz.ntmps56
    go_wp2_with fail
    go_ret
    exact ⟨rfl, HB0.out⟩
set_option maxRecDepth 100000 in
set_option maxHeartbeats 1600000 in
theorem cePart_any (a : Option Addr) (L : List Int) (c : Nat) (x : A) (w : World) (hx : inA L.length x) (hL : L.length ≤ 1024) (hi : Ints w a L) :
    Calls Tryz.prog 59 #[.slice a L.length c, .agg #[.int .i64 x.f, .int .i64 x.t, .int .u32 x.w]] w fun e w' => e = .returned (.bool (prt L x)) ∧ Below w.heap.size w w' := by
  have hb0 : Below w.heap.size w (w.alloc (.cells #[.int .i64 x.f, .int .i64 x.t, .int .u32 x.w] 68)) := (Below.refl _ _).alloc (Nat.le_refl _) _
  have hg := heap_top w (.cells #[.int .i64 x.f, .int .i64 x.t, .int .u32 x.w] 68)
  obtain ⟨c0, c1, c2⟩ := three_cells hg
  obtain ⟨⟨x0, x1⟩, x2, x3⟩ := hx
  obtain ⟨ix, ox, hix⟩ := (hi.on hb0).get
  obtain ⟨rfl, _, hat⟩ := hix (by omega)
  obtain ⟨u, hu⟩ : ∃ u : Nat, x.f = u := ⟨x.f.toNat, by omega⟩
  obtain ⟨v, hv⟩ : ∃ v : Nat, x.t = v := ⟨x.t.toNat, by omega⟩
  have d1 := hat u (by omega)
  have d2 := hat v (by omega)
  have HB0 := Lib.hid hb0
  have hu' : (u : Int) < L.length := by omega
  have hv' : (v : Int) < L.length := by omega
  have HV : Hid (prt L x = (L.getD u 0 != L.getD v 0)) := by
    show _ = _
    unfold prt lb
    rw [hu, hv, Int.toNat_natCast, Int.toNat_natCast]
    exact dec_ne _ _
  rw [HV.out]
  rw [hu, hv] at c0 c1 c2 hg HB0
  rw [hu, hv] at d1 d2
  rw [hu, hv]
  generalize x.w = xw at *
  generalize L.getD u 0 = y at *
  generalize L.getD v 0 = z at *
  clear hix hat hi hg hb0 HV
  generalize hp : w.heap.size = p at *
  go_enter Tryz.func59, Tryz.ntmps59
  go_wp2_with fail
  generalize hW : w.alloc (.cells #[.int .i64 u, .int .i64 v, .int .u32 xw] 68) = W at *
  clear hW
  go_quiet (fail)
  go_wp2_with fail
  go_ret
  exact ⟨rfl, HB0.out.trans (below_drewN _ _ _)⟩
end Go.Proofs.YtpmjbeiclmllmaaGreat
