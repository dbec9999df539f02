/-
  OverlayStays holds.
-/
import Derived.Test.YtaafkpojjdjphaaGreatYStays0
import Derived.Test.YtaafkpojjdjphaaGreatYStays2
import Derived.Test.YtaafkpojjdjphaaGreatYStays5
namespace Go.Proofs.YtaafkpojjdjphaaGreat
open Go.RowKit
theorem stays_any (N : Int) (a : Option Addr) (l : List A) (cap : Nat) (ba : Option Addr) (bs : List Int) (bc : Nat) (ca : Option Addr) (C : List Cl) (cc : Nat) (d : Option Addr) (ids : List Int) (dc : Nat) (w : World) (hlen : l.length * 24 ≤ 140737488351232) (hbl0 : bs.length * 8 ≤ 140737488351232) (hwt : ∀ x ∈ l, 0 ≤ x.w ∧ x.w < 4294967296) (hdl0 : ids.length * 8 ≤ 140737488351232) (hr : Arcs w a l) (hi : Ints w ba bs) (hR : Rws w ca C) (hd : Ints w d ids) :
    Calls Tryz.prog 10 #[.agg #[.int .i64 N, .slice a l.length cap], .agg #[.slice ba bs.length bc, .slice ca C.length cc], .slice d ids.length dc] w fun e w' => e = .returned (.bool true) ∧ Below w.heap.size w w' := by
  by_cases h2 : nsE N l bs (csl C) = 0 → stE N l bs (csl C) ids = 2
  · exact stays2_any N a l cap ba bs bc ca C cc d ids dc w hlen hbl0 hwt hdl0 hr hi hR hd h2
  · by_cases h5 : nsE N l bs (csl C) = 0 → stE N l bs (csl C) ids = 5
    · exact stays5_any N a l cap ba bs bc ca C cc d ids dc w hlen hbl0 hwt hdl0 hr hi hR hd h5
    · refine stays0_any N a l cap ba bs bc ca C cc d ids dc w hlen hbl0 hwt hdl0 hr hi hR hd (fun hns => ?_)
      have e2 : stE N l bs (csl C) ids ≠ 2 := fun e => h2 (fun _ => e)
      have e5 : stE N l bs (csl C) ids ≠ 5 := fun e => h5 (fun _ => e)
      unfold stE at e2 e5 ⊢
      rw [hns, if_neg (fun h => h rfl)] at e2 e5 ⊢
      by_cases h1 : 16384 < ids.length
      · rw [if_pos h1] at e2
        exact absurd rfl e2
      · rw [if_neg h1] at e5 ⊢
        by_cases h3 : ids.all (fun i => decide (0 ≤ i ∧ i < (l.length : Int))) = true
        · rw [if_pos h3]
        · rw [if_neg h3] at e5
          exact absurd rfl e5
end Go.Proofs.YtaafkpojjdjphaaGreat
