/-
  Contract of the book's LendDists: the list copied, with a mark behind it.
-/
import Derived.Test.YtcpbnmboeafloabDoorSum
import Derived.Laws.AppendOwnNone
import Derived.Lib.Hide
namespace Go.Proofs.YtcpbnmboeafloabDoor
open Go.RowKit
theorem info23 : (Tryd.prog.info? 29).map (fun i => (i.zero, i.size, i.bytes)) = some (some (.int .u64 0), 1, 8) := by kernel_rfl
/-- The members as cells. -/
def cellsD (l : List Int) : List Value := l.map (Value.int .u64)
theorem cellsD_len (l : List Int) : (cellsD l).length = l.length := by unfold cellsD; simp
theorem cellsD_at {l : List Int} {j : Nat} {u : Value} (h : (cellsD l)[j]? = some u) : j < l.length ∧ u = .int .u64 (l.getD j 0) := by
  unfold cellsD at h
  rw [List.getElem?_map] at h
  obtain ⟨x, hx, rfl⟩ := Option.map_eq_some_iff.1 h
  obtain ⟨hj, rfl⟩ := List.getElem?_eq_some_iff.1 hx
  exact ⟨hj, by simp [List.getD, List.getElem?_eq_getElem hj]⟩
theorem cellsD_one (l : List Int) : ∀ u ∈ cellsD l, u.oneCell' = true := by
  intro u hu
  unfold cellsD at hu
  obtain ⟨x, _, rfl⟩ := List.mem_map.1 hu
  rfl
theorem one_u64 (x : Int) : ∀ u ∈ [Value.int .u64 x], u.oneCell' = true := by intro u hu; simp at hu; subst hu; rfl
theorem own_shape {w : World} {base : Nat} {v : Value} {n : Nat} {xs : List Value} (h : w.ownsRow base 29 1 v n xs) (hn : v ≠ .slice none 0 0) : ∃ g c, v = .slice (some ⟨g, 0, none⟩) n c ∧ base ≤ g ∧ n ≤ c ∧ g < w.heap.size ∧ c ≤ 9223372036854775807 := by
  rcases h.2 with ⟨h', _⟩ | ⟨g, c, cur, h', hb, hg, hnc, hm, _⟩
  · exact absurd h' hn
  · exact ⟨g, c, h', hb, hnc, lt_of_block hg, hm⟩
theorem news_old {w : World} {ad : Addr} {l : List Int} (o : Obj) (hc : ∀ j, j < l.length → w.cell? (ad.add j) = some (.int .u64 (l.getD j 0))) : ∀ j u, (cellsD l)[j]? = some u → (w.alloc o).cell? (ad.add j) = some u := by
  intro j u hu
  obtain ⟨hj, rfl⟩ := cellsD_at hu
  have h := hc j hj
  rw [World.cell?_alloc_lt]
  · exact h
  · exact World.block_lt_of_cell? _ _ h
theorem news_one (w : World) (x : Value) : ∀ j u, [x][j]? = some u → (w.alloc (.cells #[x] 29)).cell? ((⟨w.heap.size, 0, none⟩ : Addr).add j) = some u := by
  intro j u hu
  match j, hu with
  | 0, hu => simp at hu; subst hu; simp [Addr.add]
end Go.Proofs.YtcpbnmboeafloabDoor
