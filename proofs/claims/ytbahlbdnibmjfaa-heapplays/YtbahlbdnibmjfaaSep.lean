/-
  Two heaps whose blocks are apart.
-/
import Derived.Test.YtbahlbdnibmjfaaGiven
namespace Go.Proofs.Ytbahlbdnibmjfaa
open Go.RowKit
/-- Two heaps' blocks are apart. -/
def Sp (D E : Nat → Prop) : Prop := ∀ x, D x → ¬ E x
theorem Sp.symm {D E : Nat → Prop} (h : Sp D E) : Sp E D := fun x hx hd => h x hd hx
theorem Sp.step {D E D' : Nat → Prop} {w : World} (h : Sp D E) (hl : ∀ x, E x → x < w.heap.size) (hd : ∀ x, D' x → D x ∨ w.heap.size ≤ x) : Sp D' E := fun x hx he => by
  rcases hd x hx with h' | h'
  · exact h x h' he
  · have := hl x he; omega
theorem above {D D' : Nat → Prop} {w w1 : World} (hD : ∀ x, D x → w.heap.size ≤ x) (hd : ∀ x, D' x → D x ∨ w1.heap.size ≤ x) (hs : w.heap.size ≤ w1.heap.size) : ∀ x, D' x → w.heap.size ≤ x := fun x hx => by
  rcases hd x hx with h' | h'
  · exact hD x h'
  · omega
end Go.Proofs.Ytbahlbdnibmjfaa
