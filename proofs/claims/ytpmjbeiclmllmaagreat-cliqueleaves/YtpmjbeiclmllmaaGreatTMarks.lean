/-
  A list that is filled while other rows stand; contracts of add, graph.marked and graph.inside for it.
-/
import Derived.Test.YtpmjbeiclmllmaaGreatTLd
namespace Go.Proofs.YtpmjbeiclmllmaaGreat.T3
open Go.RowKit
/-- What is kept while it is filled: all below B but the variable, and what is of another type. -/
structure KpB (m B : Nat) (w w' : World) : Prop where
  os : w'.os = w.os
  tape : w'.tape = w.tape
  output : w'.output = w.output
  size : w.heap.size ≤ w'.heap.size
  block : ∀ k, k < B → k ≠ m → w'.heap[k]? = w.heap[k]?
  other : ∀ k o, w.heap[k]? = some o → k ≠ m → (∀ cur, o ≠ .cells cur 3 (0, 0)) → w'.heap[k]? = some o
theorem KpB.refl (m B : Nat) (w : World) : KpB m B w w := ⟨rfl, rfl, rfl, Nat.le_refl _, fun _ _ _ => rfl, fun _ _ h _ _ => h⟩
theorem KpB.trans {m B : Nat} {a b c : World} (h : KpB m B a b) (k : KpB m B b c) : KpB m B a c :=
  ⟨k.os.trans h.os, k.tape.trans h.tape, k.output.trans h.output, Nat.le_trans h.size k.size, fun i hi hm => (k.block i hi hm).trans (h.block i hi hm), fun i o ho hm ht => k.other i o (h.other i o ho hm ht) hm ht⟩
theorem KpB.of {m B : Nat} {a b : World} (h : Below a.heap.size a b) (hB : B ≤ a.heap.size) : KpB m B a b := ⟨h.os, h.tape, h.output, h.size, fun k hk _ => h.block k (by omega), fun k _ ho _ _ => (h.block k (lt_of_block ho)).trans ho⟩
theorem KpB.alloc {m B : Nat} {a b : World} (h : KpB m B a b) (hB : B ≤ b.heap.size) (o : Obj) : KpB m B a (b.alloc o) := h.trans (KpB.of ((Below.refl _ _).alloc (Nat.le_refl _) o) hB)
theorem KpB.below {m B C : Nat} {w0 w w' : World} (h : KpB m B w w') (hb : Below C w0 w) (hm : C ≤ m) (hB : C ≤ B) : Below C w0 w' :=
  hb.trans ⟨h.os, h.tape, h.output, h.size, fun k hk => h.block k (by omega) (by omega)⟩
/-- A block that stays while the list is filled. -/
def Safe (m B : Nat) (w : World) (b : Nat) : Prop := (b < B ∧ b ≠ m) ∨ (b ≠ m ∧ ∃ o, w.heap[b]? = some o ∧ ∀ cur, o ≠ .cells cur 3 (0, 0))
theorem Safe.same {m B b : Nat} {w w' : World} (h : Safe m B w b) (k : KpB m B w w') : w'.heap[b]? = w.heap[b]? := by
  rcases h with ⟨h1, h2⟩ | ⟨h1, o, ho, ht⟩
  · exact k.block b h1 h2
  · rw [ho]; exact k.other b o ho h1 ht
/-- Truths of a slice lie so in memory. -/
def Bools (P : Nat → Prop) (w : World) (a : Option Addr) (q : List Bool) : Prop :=
  q = [] ∨ ∃ b o, a = some ⟨b, o, none⟩ ∧ P b ∧ ∀ j, j < q.length → w.cell? ⟨b, o + j, none⟩ = some (.bool (q.getD j false))
theorem Bools.get {P : Nat → Prop} {w : World} {a : Option Addr} {q : List Bool} (h : Bools P w a q) : ∃ b o, 0 < q.length → a = some ⟨b, o, none⟩ ∧ P b ∧ ∀ j, j < q.length → w.cell? ⟨b, o + j, none⟩ = some (.bool (q.getD j false)) := by
  rcases h with rfl | ⟨b, o, h⟩
  · exact ⟨0, 0, fun h => absurd h (by simp)⟩
  · exact ⟨b, o, fun _ => h⟩
theorem Bools.imp {P Q : Nat → Prop} {w w' : World} {a : Option Addr} {q : List Bool} (h : Bools P w a q) (hp : ∀ b, P b → Q b) (hs : ∀ b, P b → w'.heap[b]? = w.heap[b]?) : Bools Q w' a q := by
  rcases h with h | ⟨b, o, rfl, hb, hc⟩
  · exact Or.inl h
  · exact Or.inr ⟨b, o, rfl, hp b hb, fun j hj => (World.cell?_of_block (w := w) (a := ⟨b, o + j, none⟩) (hs b hb)).trans (hc j hj)⟩
theorem Bools.on {B : Nat} {w w' : World} {a : Option Addr} {q : List Bool} (h : Bools (· < B) w a q) (hb : Below B w w') : Bools (· < B) w' a q := h.imp (fun _ h => h) (fun b h => hb.block b h)
theorem below_drewN (B : Nat) (w : World) (k : Nat) : Below B w (w.drewN k) := ⟨rfl, rfl, rfl, Nat.le_refl _, fun _ _ => rfl⟩
def Ints (w : World) (a : Option Addr) (xs : List Int) : Prop :=
  xs = [] ∨ ∃ b o, a = some ⟨b, o, none⟩ ∧ b < w.heap.size ∧ ∀ j, j < xs.length → w.cell? ⟨b, o + j, none⟩ = some (.int .i64 (xs.getD j 0))
theorem Ints.on {w w' : World} {a : Option Addr} {xs : List Int} (h : Ints w a xs) (hb : Below w.heap.size w w') : Ints w' a xs := by
  rcases h with h | ⟨b, o, rfl, hl, hc⟩
  · exact Or.inl h
  · exact Or.inr ⟨b, o, rfl, Nat.lt_of_lt_of_le hl hb.size, fun j hj => (hb.cell (p := ⟨b, o + j, none⟩) hl).trans (hc j hj)⟩
theorem Ints.get {w : World} {a : Option Addr} {xs : List Int} (h : Ints w a xs) : ∃ b o, 0 < xs.length → a = some ⟨b, o, none⟩ ∧ b < w.heap.size ∧ ∀ j, j < xs.length → w.cell? ⟨b, o + j, none⟩ = some (.int .i64 (xs.getD j 0)) := by
  rcases h with rfl | ⟨b, o, h⟩
  · exact ⟨0, 0, fun h => absurd h (by simp)⟩
  · exact ⟨b, o, fun _ => h⟩
/-- The marks as a test. -/
def mk (q : List Bool) (k : Nat) : Bool := q.getD k false
/-- Both ends of an arc are kept. -/
def both (q : Nat → Bool) (x : A) : Bool := q x.f.toNat && q x.t.toNat
end Go.Proofs.YtpmjbeiclmllmaaGreat.T3
