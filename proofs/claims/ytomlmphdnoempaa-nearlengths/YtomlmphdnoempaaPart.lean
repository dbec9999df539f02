/-
  Contract of graph.part: the graph of the vertices that are kept.
-/
import Derived.Test.YtomlmphdnoempaaSame
namespace Go.Proofs.Ytomlmphdnoempaa
open Go.RowKit
theorem Ints.upto {w w' : World} {B : Nat} {a : Option Addr} {xs : List Int} (h : Ints w a xs) (hb : Below B w w') (hB : w.heap.size ≤ B) : Ints w' a xs := h.on (hb.mono hB)
theorem OwnA.put {w : World} {B g c : Nat} {l : List A} (h : OwnA w B (.some ⟨g, 0, none⟩) c l) (j : Nat) (x : A) (hj : j < l.length) : OwnA (((w.setCell ⟨g, j * 3, none⟩ (.int .i64 x.f)).setCell ⟨g, j * 3 + 1, none⟩ (.int .i64 x.t)).setCell ⟨g, j * 3 + 2, none⟩ (.int .u32 x.w)) B (.some ⟨g, 0, none⟩) c (l.set j x) := by
  have h1 := (h.set0 j x.f hj).set1 j x.t (by rw [List.length_set]; exact hj)
  rw [getDA_set _ _ _ _ hj, if_pos rfl, List.set_set] at h1
  have h2 := h1.set2 j x.w (by rw [List.length_set]; exact hj)
  rw [getDA_set _ _ _ _ hj, if_pos rfl, List.set_set] at h2
  exact h2
end Go.Proofs.Ytomlmphdnoempaa
