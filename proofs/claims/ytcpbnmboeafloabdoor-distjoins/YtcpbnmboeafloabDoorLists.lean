/-
  The list functions' contracts in the form in which the statements on lists use them: at any list, with what stays as it was.
-/
import Derived.Test.YtcpbnmboeafloabDoorRsums
import Derived.Test.YtcpbnmboeafloabDoorSpoil
import Derived.Test.YtcpbnmboeafloabDoorLeast
import Derived.Test.YtcpbnmboeafloabDoorWorks
namespace Go.Proofs.YtcpbnmboeafloabDoor
open Go.RowKit
theorem below_n (w : World) (n : Nat) : Below w.heap.size w (w.drewN n) := below_drewN (Below.refl _ _) n
/-- A row stays where everything that was there stays. -/
theorem Row.on {w w' : World} {a : Option Addr} {l : List Int} (h : Row w a l) (hb : Below w.heap.size w w') : Row w' a l := by
  rcases h with h | ⟨b, off, rfl, hc⟩
  · exact Or.inl h
  · exact Or.inr ⟨b, off, rfl, fun j hj => (hb.cell (World.block_lt_of_cell? w _ (hc j hj))).trans (hc j hj)⟩
theorem own_on {w w' : World} {B n : Nat} {v : Value} {xs : List Value} (h : w.ownsRow B 29 1 v n xs) (hb : Below w.heap.size w w') : w'.ownsRow B 29 1 v n xs := by
  obtain ⟨h1, h2⟩ := h
  refine ⟨h1, ?_⟩
  rcases h2 with h2 | ⟨g, cap, cur, hv, hg, hh, hr⟩
  · exact Or.inl h2
  · exact Or.inr ⟨g, cap, cur, hv, hg, by rw [hb.block g (lt_of_block hh)]; exact hh, hr⟩
theorem own_row {w : World} {B g c : Nat} {xs : List Int} (h : w.ownsRow B 29 1 (.slice (some ⟨g, 0, none⟩) xs.length c) xs.length (cellsD xs)) : Row w (some ⟨g, 0, none⟩) xs := by
  refine Or.inr ⟨g, 0, rfl, fun j hj => ?_⟩
  rw [Nat.zero_add, h.cellAt j (by omega)]
  exact cellsD_getD xs j hj
/-- A slice that came in: nil, or its members lie behind its address. -/
def Came (w : World) (a : Option Addr) (cap : Nat) (l : List Int) : Prop :=
  (a = none ∧ l = [] ∧ cap = 0) ∨ ∃ ad, a = some ad ∧ ∀ j, j < l.length → w.cell? (ad.add j) = some (.int .u64 (l.getD j 0))
/-- What Sums tells. -/
def sumsR (l : List Int) : List Int := if 16384 < l.length then [] else sumsD l
def sumsE (l : List Int) : Int := if 16384 < l.length then 2 else 0
/-- A list of one's own without room behind it. -/
def Own (B : Nat) (w : World) (a : Option Addr) (c : Nat) (xs : List Int) : Prop :=
  (xs = [] ∧ c = 0) ∨ ∃ g, a = some ⟨g, 0, none⟩ ∧ c = xs.length ∧ w.ownsRow B 29 1 (.slice (some ⟨g, 0, none⟩) xs.length xs.length) xs.length (cellsD xs)
theorem Own.on {B c : Nat} {w w' : World} {a : Option Addr} {xs : List Int} (h : Own B w a c xs) (hb : Below w.heap.size w w') : Own B w' a c xs := by
  rcases h with h | ⟨g, h1, h2, h3⟩
  · exact Or.inl h
  · exact Or.inr ⟨g, h1, h2, own_on h3 hb⟩
theorem Own.row {B c : Nat} {w : World} {a : Option Addr} {xs : List Int} (h : Own B w a c xs) : Row w a xs := by
  rcases h with ⟨h, _⟩ | ⟨g, rfl, _, h3⟩
  · exact Or.inl h
  · exact own_row h3
theorem sums_any (a : Option Addr) (l : List Int) (cap : Nat) (w : World) (hl : Dists l) (hlen : l.length ≤ 9223372036854775807) (hr : Row w a l) :
    Calls Tryd.prog 5 #[.slice a l.length cap] w fun e w' => ∃ a' c, e = .returned (.tuple #[.slice a' (sumsR l).length c, .int .i64 (sumsE l)]) ∧ Own w.heap.size w' a' c (sumsR l) ∧ Below w.heap.size w w' := by
  by_cases h : 16384 < l.length
  · rw [show sumsR l = [] from if_pos h, show sumsE l = 2 from if_pos h]
    refine (sums_long a l.length cap w h hlen).mono ?_
    rintro e w1 ⟨rfl, rfl⟩
    exact ⟨none, 0, rfl, Or.inl ⟨rfl, rfl⟩, Below.refl _ _⟩
  · rw [show sumsR l = sumsD l from if_neg h, show sumsE l = 0 from if_neg h, sumsD_len]
    by_cases h0 : l = []
    · subst h0
      refine (sums_none a cap w).mono ?_
      rintro e w1 ⟨rfl, hb⟩
      exact ⟨_, 0, rfl, Or.inl ⟨rfl, rfl⟩, hb⟩
    · rcases hr with hr | ⟨b, off, rfl, hc⟩
      · exact absurd hr h0
      · refine (sums_some b off cap l w hl (by omega) (List.length_pos_iff.2 h0) hc).mono ?_
        rintro e w1 ⟨rfl, ho, hb⟩
        refine ⟨_, _, rfl, Or.inr ⟨_, rfl, by rw [sumsD_len], ?_⟩, hb⟩
        rw [sumsD_len]; exact ho
end Go.Proofs.YtcpbnmboeafloabDoor
