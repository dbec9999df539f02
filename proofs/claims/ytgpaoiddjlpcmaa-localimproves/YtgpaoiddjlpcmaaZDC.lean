/-
  The contract of the book's SpoilInts: rows keep their shape.
-/
import Derived.Test.YtgpaoiddjlpcmaaZDA
namespace Go.Proofs.Ytgpaoiddjlpcmaa
open Go.RowKit
theorem own_shape_set {w : World} {base : Nat} {e : TypeId} {size : Nat} {v : Value} {n : Nat} {xs : List Value} (h : w.ownsRow base e size v n xs) (g i : Nat) (u : Value) : ∃ ys, (w.setCell ⟨g, i, none⟩ u).ownsRow base e size v n ys := by
  rcases h.2 with ⟨rfl, rfl⟩ | ⟨g', c, cur, rfl, h2, h3, h4, h5, h6, h7⟩
  · exact ⟨[], World.ownsRow_nil _ _ _ _⟩
  · by_cases hg : g' = g
    · subst hg
      refine ⟨((cur.setIfInBounds i u).toList.take (n * size)), ?_, Or.inr ⟨g', c, cur.setIfInBounds i u, rfl, h2, heap_setCell_same w g' i cur e u h3, h4, h5, by simpa using h6, rfl⟩⟩
      have := h.1
      rw [List.length_take, Array.length_toList, Array.size_setIfInBounds, h6]
      have : n * size ≤ c * size := Nat.mul_le_mul_right _ h4
      omega
    · exact ⟨xs, h.1, Or.inr ⟨g', c, cur, rfl, h2, (heap_setCell_other w _ g' _ hg).trans h3, h4, h5, h6, h7⟩⟩
/-- Rows stay rows. -/
def Rowed (w w' : World) : Prop := ∀ (base : Nat) (e : TypeId) (size : Nat) (v : Value) (n : Nat) (xs : List Value), w.ownsRow base e size v n xs → ∃ ys, w'.ownsRow base e size v n ys
set_option maxHeartbeats 400000 in
theorem spoilInts_row (g n m B : Nat) (x : Int) (xs : List Value) (w : World) (hn : n ≤ 9223372036854775807) (hown : w.ownsRow B 3 1 (.slice (some ⟨g, 0, none⟩) n n) n xs) :
    Calls Try.prog 21 #[.slice (some ⟨g, 0, none⟩) m n, .int .i64 x] w fun e w' => e = .returned (.tuple #[]) ∧ Below B w w' ∧ Rowed w w' := by
  have hgB : B ≤ g := (hown.lt g rfl).1
  go_enter Try.func21, Try.ntmps21
  go_wp2_with fail
  go_loopw [4] (fun i wr => ∃ (k : Nat) (xs : List Value), k ≤ n ∧ i = .int .i64 k ∧ wr.ownsRow B 3 1 (.slice (some ⟨g, 0, none⟩) n n) n xs ∧ Below B w wr ∧ Rowed w wr) (fun i _ => n - (intOf i).toNat)
  case atStart => exact ⟨0, xs, Nat.zero_le _, rfl, hown, Below.refl _ _, fun _ _ _ _ _ xs h => ⟨xs, h⟩⟩
  case round =>
    obtain ⟨k, ys, hk, rfl, ho, hbel, hrow⟩ := hrel
    have HR := Lib.hid hrow
    clear hrow
    by_cases hlt : k < n
    · have hyl : k < ys.length := by have := ho.1; omega
      have c2 : wr.cell? ⟨g, k, none⟩ = some ys[k] := (ho.cellAt k (by omega)).trans (List.getElem?_eq_getElem hyl)
      have f2 : wr.frozen? ⟨g, k, none⟩ = false := ho.frozenAt k
      generalize ys[k] = y at c2
      have HS := Lib.hid (ho.stored k (.int .i64 x))
      go_wp2_with fail
      exact ⟨⟨k + 1, _, by omega, by go_num, HS.out.1, hbel.setCell hgB _, fun base e size v n xs h => by obtain ⟨zs, hz⟩ := HR.out base e size v n xs h; exact own_shape_set hz g k _⟩, by simp [intOf]; omega⟩
    · go_wp2_with fail
      go_end0
      exact ⟨rfl, hbel, HR.out⟩
theorem spoilInts_gen (a : Option Addr) (n c B : Nat) (x : Int) (xs : List Value) (w : World) (hown : w.ownsRow B 3 1 (.slice a n c) n xs) :
    Calls Try.prog 21 #[.slice a n c, .int .i64 x] w fun e w' => e = .returned (.tuple #[]) ∧ Below B w w' ∧ Rowed w w' := by
  rcases hown.2 with ⟨h', h0⟩ | ⟨g, c', cur, h', hb, hg, hnc, hm, _⟩
  · injection h' with e1 e2 e3
    subst e1 e3
    rw [h0]
    refine (spoilInts_none x w).mono ?_
    rintro e w' ⟨rfl, rfl⟩
    exact ⟨rfl, Below.refl _ _, fun _ _ _ _ _ xs h => ⟨xs, h⟩⟩
  · injection h' with e1 e2 e3
    subst e1 e3
    obtain ⟨ys, hy⟩ := own_wide hown
    exact spoilInts_row g c n B x ys w (by unfold maxLen at hm; omega) hy
end Go.Proofs.Ytgpaoiddjlpcmaa
