/-
  A list of distances that came in, as the walks want it.
-/
import Derived.Test.YtcpbnmboeafloabDoorLists
import Derived.Test.YtcpbnmboeafloabDoorBounds
import Derived.SizedLaws
namespace Go.Proofs.YtcpbnmboeafloabDoor
open Go.RowKit
theorem bytes23 : Tryd.prog.bytesOf 29 = 8 := by kernel_rfl
/-- What the walks are told of a list that came in. -/
def Given (W : World) (a : Option Addr) (len cap : Nat) (l : List Int) : Prop :=
  len = l.length ∧ Came W a cap l ∧ Row W a l ∧ Dists l ∧ l.length * 8 ≤ 140737488351232
theorem given_nil (W : World) : Given W none 0 0 [] := ⟨rfl, Or.inl ⟨rfl, rfl, rfl⟩, Or.inl rfl, (by intro x hx; cases hx), by simp⟩
theorem take_getD (zs : List Int) (n j : Nat) (h : j < n) : (zs.take n).getD j 0 = zs.getD j 0 := by
  simp [List.getD, h]
theorem given_some {W : World} {x : Addr} {ln cp : Nat} {zs : List Int} (hl : ln ≤ cp) (hz : zs.length = cp) (hcell : ∀ i, i < zs.length → W.cell? (x.add i) = some (.int .u64 (zs.getD i 0))) (hwz : ∀ n ∈ zs, (Lit.int .u64 n).wf = true) (hw : cp * 8 ≤ 140737488351232) :
    Given W (some x) ln cp (zs.take ln) := by
  have hlen : (zs.take ln).length = ln := by rw [List.length_take]; omega
  have hc : ∀ j, j < (zs.take ln).length → W.cell? (x.add j) = some (.int .u64 ((zs.take ln).getD j 0)) := by
    intro j hj
    rw [hlen] at hj
    rw [take_getD zs ln j hj]
    exact hcell j (by omega)
  refine ⟨hlen.symm, Or.inr ⟨x, rfl, hc⟩, ?_, ?_, by rw [hlen]; omega⟩
  · by_cases h0 : 0 < (zs.take ln).length
    · obtain ⟨b, off, rfl, h⟩ := ints_at hc h0
      exact Or.inr ⟨b, off, rfl, h⟩
    · exact Or.inl (List.eq_nil_of_length_eq_zero (by omega))
  · intro n hn
    exact u64_bounds (hwz n (List.mem_of_mem_take hn))
end Go.Proofs.YtcpbnmboeafloabDoor
