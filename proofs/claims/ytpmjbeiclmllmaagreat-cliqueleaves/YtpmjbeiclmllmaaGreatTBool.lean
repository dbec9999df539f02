/-
  Lists of booleans.
-/
import Derived.Test.YtpmjbeiclmllmaaGreatTLd
import Derived.Test.YtpmjbeiclmllmaaGreatTMarks
import Derived.BigRegion
namespace Go.Proofs.YtpmjbeiclmllmaaGreat.T3
open Go.RowKit
theorem info4 : (Tryz.prog.info? 4).map (fun i => (i.zero, i.size, i.bytes)) = some (some (.bool false), 1, 1) := by kernel_rfl
/-- Truths as cells. -/
def cellsB (l : List Bool) : List Value := l.map Value.bool
theorem cellsB_len (l : List Bool) : (cellsB l).length = l.length := by unfold cellsB; simp
theorem cellsB_getD (xs : List Bool) (k : Nat) (h : k < xs.length) : (cellsB xs)[k]? = some (.bool (xs.getD k false)) := by
  unfold cellsB
  simp [List.getD, List.getElem?_eq_getElem h]
theorem cellsB_set (xs : List Bool) (k : Nat) (x : Bool) : (cellsB xs).set k (.bool x) = cellsB (xs.set k x) := by
  unfold cellsB
  rw [List.map_set]
theorem getDB_set (L : List Bool) (k j : Nat) (x : Bool) (hk : k < L.length) : (L.set k x).getD j false = if j = k then x else L.getD j false := by
  by_cases h : j = k
  · subst h; simp [List.getD, hk]
  · rw [if_neg h]; simp [List.getD, Ne.symm h]
/-- Truths in a row of our own. -/
def OwnB (w : World) (g n : Nat) (L : List Bool) : Prop := w.ownsRow g 4 1 (.slice (some ⟨g, 0, none⟩) n n) n (cellsB L)
theorem OwnB.cell {w : World} {g n : Nat} {L : List Bool} (h : OwnB w g n L) (hl : L.length = n) (k : Nat) (hk : k < n) : w.cell? ⟨g, k, none⟩ = some (.bool (L.getD k false)) := by
  rw [World.ownsRow.cellAt h k (by omega), cellsB_getD _ k (by omega)]
theorem OwnB.set {w : World} {g n : Nat} {L : List Bool} (h : OwnB w g n L) (k : Nat) (x : Bool) : OwnB (w.setCell ⟨g, k, none⟩ (.bool x)) g n (L.set k x) := by
  have := (World.ownsRow.stored h k (.bool x)).1
  rw [cellsB_set] at this
  exact this
theorem OwnB.free {w : World} {g n : Nat} {L : List Bool} (h : OwnB w g n L) (k : Nat) : w.frozen? ⟨g, k, none⟩ = false := World.ownsRow.frozenAt h k
theorem OwnB.lt {w : World} {g n : Nat} {L : List Bool} (h : OwnB w g n L) : g < w.heap.size := (World.ownsRow.lt h g rfl).2
theorem OwnB.bools {w : World} {g n : Nat} {L : List Bool} (h : OwnB w g n L) (hl : L.length = n) : Bools (· < w.heap.size) w (some ⟨g, 0, none⟩) L :=
  Or.inr ⟨g, 0, rfl, h.lt, fun j hj => by rw [Nat.zero_add]; exact h.cell hl j (by omega)⟩
theorem ownB_new {w : World} {base n : Nat} (h : w.ownsRow base 4 1 (.slice (some ⟨base, 0, none⟩) n n) n (madeCells (Value.bool false).cells (n * 1)).toList) : OwnB w base n (List.replicate n false) := by
  have e : (madeCells (Value.bool false).cells (n * 1)).toList = cellsB (List.replicate n false) := by
    show (madeCells #[Value.bool false] (n * 1)).toList = _
    rw [toList_madeCells_one, Nat.mul_one]
    unfold cellsB
    simp
  rw [e] at h
  exact h
theorem mem_getD {l : List A} {j : Nat} (h : j < l.length) : l.getD j A.zero ∈ l := by
  rw [show l.getD j A.zero = l[j] by simp [List.getD, List.getElem?_eq_getElem h]]; exact List.getElem_mem h
theorem labsI_getD (R : Nat → Nat) (n k : Nat) (h : k < n) : (ints (labs R n)).getD k 0 = ((lab R k : Nat) : Int) := by rw [ints_getD, labs_getD R n k h]
end Go.Proofs.YtpmjbeiclmllmaaGreat.T3
