/-
  Small things.
-/
import Derived.Test.YtpgadcacimjlaaaGreatFCut
import Derived.BigRegion
import Derived.Deep.RegionLaw
namespace Go.Proofs.YtpgadcacimjlaaaGreat.F6
open Go.RowKit
theorem wp_append_none {P : Program} {w : World} {o : Oper} {a : Act} {K : Act → World → Prop} {Q : Exit → Act → World → Prop} (s x : Operand) (t : TypeId)
    (ho : o.op = .call { callee := .builtin .append, args := #[s, x], argTypes := #[t, t] }) (base : Nat) (e : TypeId) (i : TypeInfo) (size : Nat) (ht : P.underlying t = some (.slice e)) (hi : P.info? e = some i)
    (v : Value) (n : Nat) (xs : List Value) (hs : a.eval s = v) (hown : w.ownsRow base e size v n xs) (hx : a.eval x = .slice none 0 0) (h : K (a.put o.dst v) w) : o.wp P a w K Q := by
  have hrun := run_append_owned_none (P := P) (w := w) base t o.type e i size ht hi v n xs hown
  unfold Oper.wp
  simp [execOp, ho, resolve, invoke, builtin, hs, hx, hrun, Result.andThen]
  exact h
theorem set2_same {w : World} {h : Nat} {x y a b : Value} {t : TypeId} (hh : w.heap[h]? = some (.cells #[x, y] t (0, 0))) : ((w.setCell ⟨h, 0, none⟩ a).setCell ⟨h, 1, none⟩ b).heap[h]? = some (.cells #[a, b] t (0, 0)) := by
  have h1 := heap_setCell_same w h 0 _ _ a hh
  rw [heap_setCell_same _ h 1 _ _ b h1]
  simp
theorem own_set {w : World} {base : Nat} {e : TypeId} {size : Nat} {v : Value} {n : Nat} {xs : List Value} (h : w.ownsRow base e size v n xs) (p : Addr) (u : Value) (hp : p.block < base) : (w.setCell p u).ownsRow base e size v n xs := by
  refine ⟨h.1, ?_⟩
  rcases h.2 with h' | ⟨g, c, cur, h1, h2, h3, h4⟩
  · exact Or.inl h'
  · exact Or.inr ⟨g, c, cur, h1, h2, (Below.heap_setCell w p u g (fun e => by omega)).trans h3, h4⟩
theorem own_cell {w : World} {base : Nat} {a : Option Addr} {n cap : Nat} {ys : List Int} (h : w.ownsRow base 3 1 (.slice a n cap) n (cellsI ys)) (hl : ys.length = n) {j : Nat} (hj : j < n) : ∃ g, a = some ⟨g, 0, none⟩ ∧ g < w.heap.size ∧ base ≤ g ∧ w.cell? ⟨g, j, none⟩ = some (.int .i64 (ys.getD j 0)) := by
  rcases h.2 with ⟨h1, h2⟩ | ⟨g, c, cur, h1, h2, h3, _⟩
  · omega
  · injection h1 with ha hb hc
    subst ha
    have := World.ownsRow.cellAt h j (by omega)
    refine ⟨g, rfl, lt_of_block h3, h2, ?_⟩
    rw [cellsI_getD ys j (by omega)] at this
    exact this
end Go.Proofs.YtpgadcacimjlaaaGreat.F6
