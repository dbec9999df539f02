/-
  Contracts of graph.leader, graph.join, graph.tidy and graph.Parts.
-/
import Derived.Test.YtpmjbeiclmllmaaGreatTLead
namespace Go.Proofs.YtpmjbeiclmllmaaGreat.T3
open Go.RowKit
/-- Every block but one is as it was. -/
structure Rd (g : Nat) (w w' : World) : Prop where
  os : w'.os = w.os
  tape : w'.tape = w.tape
  output : w'.output = w.output
  size : w.heap.size ≤ w'.heap.size
  block : ∀ k, k < w.heap.size → k ≠ g → w'.heap[k]? = w.heap[k]?
theorem Rd.refl (g : Nat) (w : World) : Rd g w w := ⟨rfl, rfl, rfl, Nat.le_refl _, fun _ _ _ => rfl⟩
theorem Rd.trans {g : Nat} {a b c : World} (h : Rd g a b) (k : Rd g b c) : Rd g a c :=
  ⟨k.os.trans h.os, k.tape.trans h.tape, k.output.trans h.output, Nat.le_trans h.size k.size, fun i hi hn => (k.block i (Nat.lt_of_lt_of_le hi h.size) hn).trans (h.block i hi hn)⟩
theorem Rd.set {g : Nat} (w : World) (o : Nat) (u : Value) : Rd g w (w.setCell ⟨g, o, none⟩ u) := by
  have h := (Below.refl 0 w).setCell (p := ⟨g, o, none⟩) (Nat.zero_le _) u
  exact ⟨h.os, h.tape, h.output, h.size, fun k _ hn => Below.heap_setCell w _ u k hn⟩
theorem Rd.below {g B : Nat} {w0 w w' : World} (h : Rd g w w') (hb : Below B w0 w) (hg : B ≤ g) (hB : B ≤ w.heap.size) : Below B w0 w' :=
  hb.trans ⟨h.os, h.tape, h.output, h.size, fun k hk => h.block k (by omega) (by omega)⟩
/-- Leaders in memory: a row of our own. -/
def OwnL (w : World) (g n : Nat) (L : List Nat) : Prop := w.ownsRow g 3 1 (.slice (some ⟨g, 0, none⟩) n n) n (cellsI (ints L))
theorem OwnL.cell {w : World} {g n : Nat} {L : List Nat} (h : OwnL w g n L) (hl : L.length = n) (k : Nat) (hk : k < n) : w.cell? ⟨g, k, none⟩ = some (.int .i64 ((L.getD k 0 : Nat) : Int)) := by
  rw [World.ownsRow.cellAt h k (by omega), cellsI_getD _ k (by rw [ints_len]; omega), ints_getD]
theorem OwnL.set {w : World} {g n : Nat} {L : List Nat} (h : OwnL w g n L) (k x : Nat) : OwnL (w.setCell ⟨g, k, none⟩ (.int .i64 (x : Int))) g n (L.set k x) := by
  have := (World.ownsRow.stored h k (.int .i64 (x : Int))).1
  rw [cellsI_set, ints_set] at this
  exact this
theorem OwnL.free {w : World} {g n : Nat} {L : List Nat} (h : OwnL w g n L) (k : Nat) : w.frozen? ⟨g, k, none⟩ = false := World.ownsRow.frozenAt h k
theorem OwnL.lt {w : World} {g n : Nat} {L : List Nat} (h : OwnL w g n L) : g < w.heap.size := (World.ownsRow.lt h g rfl).2
theorem below_of {B : Nat} {w w' : World} (hB : B ≤ w.heap.size) (h : Below w.heap.size w w') : Below B w w' := h.mono hB
end Go.Proofs.YtpmjbeiclmllmaaGreat.T3
