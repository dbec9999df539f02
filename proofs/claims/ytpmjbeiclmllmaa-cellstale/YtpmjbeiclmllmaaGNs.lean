/-
  A graph and a nest as they lie in a law's variables.
-/
import Derived.Test.YtpmjbeiclmllmaaJoM
namespace Go.Proofs.Ytpmjbeiclmllmaa
open Go.RowKit
/-- A graph and a nest as they lie in the law's variables. -/
structure GN (w : World) (p : Nat) (N : Int) (a : Option Addr) (l : List A) (cap : Nat) (ba : Option Addr) (bs : List Int) (bc : Nat) (ca : Option Addr) (C : List Cl) (cc : Nat) : Prop where
  g : w.heap[p]? = some (.cells #[.int .i64 N, .slice a l.length cap] 24)
  n : w.heap[p + 1]? = some (.cells #[.slice ba bs.length bc, .slice ca C.length cc] 28)
  arcs : Arcs w a l
  ints : Ints w ba bs
  rws : Rws w ca C
theorem GN.on {w w' : World} {p : Nat} {N : Int} {a : Option Addr} {l : List A} {cap : Nat} {ba : Option Addr} {bs : List Int} {bc : Nat} {ca : Option Addr} {C : List Cl} {cc : Nat} (h : GN w p N a l cap ba bs bc ca C cc) (hb : Below w.heap.size w w') : GN w' p N a l cap ba bs bc ca C cc :=
  ⟨(hb.block _ (lt_of_block h.g)).trans h.g, (hb.block _ (lt_of_block h.n)).trans h.n, h.arcs.on hb, h.ints.on hb, h.rws.on hb⟩
theorem GN.cells {w : World} {p : Nat} {N : Int} {a : Option Addr} {l : List A} {cap : Nat} {ba : Option Addr} {bs : List Int} {bc : Nat} {ca : Option Addr} {C : List Cl} {cc : Nat} (h : GN w p N a l cap ba bs bc ca C cc) : w.cell? ⟨p, 0, none⟩ = some (.int .i64 N) ∧ w.cell? ⟨p, 1, none⟩ = some (.slice a l.length cap) ∧ w.cell? ⟨p + 1, 0, none⟩ = some (.slice ba bs.length bc) ∧ w.cell? ⟨p + 1, 1, none⟩ = some (.slice ca C.length cc) := by
  obtain ⟨⟨g0, g1⟩, _⟩ := two_cells h.g
  obtain ⟨⟨g2, g3⟩, _⟩ := two_cells h.n
  exact ⟨g0, g1, g2, g3⟩
end Go.Proofs.Ytpmjbeiclmllmaa
