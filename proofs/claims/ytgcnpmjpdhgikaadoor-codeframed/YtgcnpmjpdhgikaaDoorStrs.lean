/-
  A list of texts that came in, as the walks want it.
-/
import Derived.Test.YtgcnpmjpdhgikaaDoorLawFramed
import Derived.OpenShut
import Derived.SliceStrings
import Derived.SizedLaws
namespace Go.Proofs.YtgcnpmjpdhgikaaDoor
open Go.RowKit
theorem bytes9 : Tryd.prog.bytesOf 9 = 16 := by kernel_rfl
theorem cells9 : Tryd.prog.cellsOf 9 = 1 := by kernel_rfl
/-- What the walks are told of a list of texts that came in. -/
def GivenT (W : World) (a : Option Addr) (len : Nat) (L : List (List UInt8)) : Prop :=
  ∃ b o, Texts W a len L b o ∧ (∀ j, j < len → (L.getD j []).length ≤ 9223372036854775807) ∧ len ≤ 140737488351232
theorem givenT_nil (W : World) : GivenT W none 0 [] := ⟨0, 0, ⟨rfl, by omega, by omega⟩, by omega, by omega⟩
theorem givenT_some {W : World} {x : Addr} {ln cp : Nat} {ss : List ByteArray} (hl : ln ≤ cp) (hz : ss.length = cp) (hcell : ∀ i, i < ss.length → W.cell? (x.add i) = some (.string (ss.getD i ByteArray.empty))) (hs : ∀ s ∈ ss, s.size ≤ maxLen) (hw : cp * 16 ≤ 140737488351232) :
    GivenT W (some x) ln ((ss.take ln).map fun s => s.data.toList) := by
  have hlen : ((ss.take ln).map fun s => s.data.toList).length = ln := by rw [List.length_map, List.length_take]; omega
  have hget : ∀ j, j < ln → ((ss.take ln).map fun s => s.data.toList).getD j [] = (ss.getD j ByteArray.empty).data.toList := by
    intro j hj
    have h1 : j < ss.length := by omega
    have h2 : j < (ss.take ln).length := by rw [List.length_take]; omega
    simp [List.getD, List.getElem?_eq_getElem h1, hj]
  by_cases h0 : 0 < ln
  · obtain ⟨b, off, spot⟩ := x
    have hspot : spot = none := by simpa [Addr.add] using World.cell?_spot (hcell 0 (by omega))
    subst hspot
    refine ⟨b, off, ⟨hlen, fun _ => rfl, fun j hj => ?_⟩, fun j hj => ?_, by omega⟩
    · rw [hget j hj, str_back, ← Go.WideShapes.add_plain]
      exact hcell j (by omega)
    · rw [hget j hj]
      have h1 : j < ss.length := by omega
      have e : ss.getD j ByteArray.empty = ss[j] := by simp [List.getD, List.getElem?_eq_getElem h1]
      rw [e]
      have := hs _ (List.getElem_mem h1)
      unfold maxLen at this
      simpa using this
  · exact ⟨0, 0, ⟨hlen, fun h => absurd h h0, fun j hj => absurd hj (by omega)⟩, fun j hj => absurd hj (by omega), by omega⟩
theorem law_framed {a : Option Addr} {n cap : Nat} {L : List (List UInt8)} (A C : ByteArray) (hA : A.size ≤ 140737488351232) (hC : C.size ≤ 140737488351232) (w : World) (hg : GivenT w a n L) (hh : Halves w) :
    Calls Tryd.prog 7 #[.slice a n cap, .string A, .string C] w fun e w' => e = .returned (.bool true) ∧ Below w.heap.size w w' := by
  obtain ⟨b, o, hl, hLs, hn⟩ := hg
  by_cases h : 50 < n ∨ 262144 < A.size + C.size
  · exact framed_out a n cap A C hA hC hn h w hh
  · exact framed_in a n cap L b o A C hLs (by omega) (by omega) w hl hh
end Go.Proofs.YtgcnpmjpdhgikaaDoor
