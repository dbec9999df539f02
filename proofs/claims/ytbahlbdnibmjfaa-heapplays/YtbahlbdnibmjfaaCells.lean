/-
  Rows of keys and of truths in memory.
-/
import Derived.Test.YtbahlbdnibmjfaaGiven
namespace Go.Proofs.Ytbahlbdnibmjfaa
open Go.RowKit
def cellsU (l : List Int) : List Value := l.map (Value.int .u64)
def cellsB (l : List Bool) : List Value := l.map Value.bool
theorem cellsU_at {w : World} {b : Nat} {l : List Int} (h : w.heap[b]? = some (.cells (cellsU l).toArray 32 (0, 0))) (k : Nat) (hk : k < l.length) : w.cell? ⟨b, k, none⟩ = some (.int .u64 (l.getD k 0)) ∧ w.frozen? ⟨b, k, none⟩ = false := by
  simp [World.cell?, World.frozen?, h, cellsU, List.getD, hk]
theorem cellsB_at {w : World} {b : Nat} {l : List Bool} (h : w.heap[b]? = some (.cells (cellsB l).toArray 4 (0, 0))) (k : Nat) (hk : k < l.length) : w.cell? ⟨b, k, none⟩ = some (.bool (l.getD k false)) ∧ w.frozen? ⟨b, k, none⟩ = false := by
  simp [World.cell?, World.frozen?, h, cellsB, List.getD, hk]
theorem cellsU_set {w : World} {b : Nat} {l : List Int} (h : w.heap[b]? = some (.cells (cellsU l).toArray 32 (0, 0))) (k : Nat) (x : Int) : (w.setCell ⟨b, k, none⟩ (.int .u64 x)).heap[b]? = some (.cells (cellsU (l.set k x)).toArray 32 (0, 0)) := by
  rw [heap_setCell_same w b k _ _ _ h]
  simp [cellsU]
theorem cellsB_set {w : World} {b : Nat} {l : List Bool} (h : w.heap[b]? = some (.cells (cellsB l).toArray 4 (0, 0))) (k : Nat) (x : Bool) : (w.setCell ⟨b, k, none⟩ (.bool x)).heap[b]? = some (.cells (cellsB (l.set k x)).toArray 4 (0, 0)) := by
  rw [heap_setCell_same w b k _ _ _ h]
  simp [cellsB]
theorem info32 : (Try.prog.info? 32).map (fun i => (i.zero, i.size, i.bytes)) = some (some (.int .u64 0), 1, 8) := by kernel_rfl
theorem info4 : (Try.prog.info? 4).map (fun i => (i.zero, i.size, i.bytes)) = some (some (.bool false), 1, 1) := by kernel_rfl
theorem made_u64 (n : Nat) : (madeCells (Value.int .u64 0).cells (n * 1)).toList = cellsU (List.replicate n 0) := by
  show (madeCells #[Value.int .u64 0] (n * 1)).toList = _
  rw [toList_madeCells_one, Nat.mul_one]
  simp [cellsU]
theorem made_bool (n : Nat) : (madeCells (Value.bool false).cells (n * 1)).toList = cellsB (List.replicate n false) := by
  show (madeCells #[Value.bool false] (n * 1)).toList = _
  rw [toList_madeCells_one, Nat.mul_one]
  simp [cellsB]
theorem getD_setI {l : List Int} {k i : Nat} {x : Int} (hk : k < l.length) : (l.set k x).getD i 0 = if i = k then x else l.getD i 0 := pl_set hk
theorem getD_setB {l : List Bool} {k i : Nat} {x : Bool} (hk : k < l.length) : (l.set k x).getD i false = if i = k then x else l.getD i false := by
  simp only [List.getD_eq_getElem?_getD, List.getElem?_set]
  by_cases h : i = k
  · subst h; simp [hk]
  · rw [if_neg (fun e => h e.symm), if_neg h]
theorem Lower_ok {w : World} {h n : Nat} {T : Nat → Option Int} {D : Nat → Prop} (r : HR w h n T D) (x : Nat) (hx : x < n) (key : Int) :
    Calls Try.prog 15 #[.pointer (some ⟨h, 0, none⟩), .int .i64 x, .int .u64 key] w fun e w' => e = .returned (.tuple #[.bool (low T x key), .int .i64 0]) ∧ HRto w w' h n (lowT T x key) D := by
  have hok : okI n x = true := by simp [okI]; omega
  have := Lower_any r x key
  rw [show lowB n T x key = low T x key by simp [lowB, hok], show lowE n x = 0 by simp [lowE, hok], show lowTT n T x key = lowT T x key by simp [lowTT, hok]] at this
  exact this
end Go.Proofs.Ytbahlbdnibmjfaa
