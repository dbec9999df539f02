/-
  A list that is filled while other rows stand; contracts of add, graph.marked and graph.inside for it. Contracts of the book's SameInts and SameGraph, at the same ones: true.
-/
import Derived.Test.YtgpaoiddjlpcmaaZBB
import Derived.Laws.StructEq
namespace Go.Proofs.Ytgpaoiddjlpcmaa.T3
open Go.RowKit
theorem below_drewN (B : Nat) (w : World) (n : Nat) : Below B w (w.drewN n) := ⟨rfl, rfl, rfl, Nat.le_refl _, fun _ _ => rfl⟩
set_option maxRecDepth 100000 in
set_option maxHeartbeats 400000 in
theorem sameInts_any (a a' : Option Addr) (cap cap' : Nat) (xs : List Int) (w : World) (hlen : xs.length ≤ 9223372036854775807) (hr : Ints w a xs) (hr' : Ints w a' xs) :
    Calls Try.prog 20 #[.slice a xs.length cap, .slice a' xs.length cap'] w fun e w' => e = .returned (.bool true) ∧ Below w.heap.size w w' := by
  obtain ⟨b, o, hab⟩ := hr.get
  obtain ⟨b', o', hab'⟩ := hr'.get
  go_enter Try.func20, Try.ntmps20
  go_wp2_with fail
  go_loopw [5] (fun i wr => ∃ k n : Nat, k ≤ xs.length ∧ i = .int .i64 k ∧ wr = w.drewN n) (fun i _ => xs.length - (intOf i).toNat)
  case atStart => exact ⟨0, 0, Nat.zero_le _, rfl, rfl⟩
  case round =>
    obtain ⟨k, n, hk, rfl, rfl⟩ := hrel
    by_cases hlt : k < xs.length
    · obtain ⟨rfl, _, hc⟩ := hab (by omega)
      obtain ⟨rfl, _, hc'⟩ := hab' (by omega)
      have c1 := hc k hlt
      have c2 := hc' k hlt
      clear hc hc'
      generalize xs.getD k 0 = x at *
      go_wp2_with fail
      go_quiet (fail)
      go_wp2_with fail
      exact ⟨⟨k + 1, _, by omega, by go_num, rfl⟩, by simp [intOf]; omega⟩
    · go_wp2_with fail
      go_ret
      exact ⟨rfl, below_drewN _ _ _⟩
set_option maxRecDepth 100000 in
set_option maxHeartbeats 800000 in
theorem sameGraph_any (N : Int) (a a' : Option Addr) (cap cap' : Nat) (l : List A) (w : World) (hlen : l.length ≤ 9223372036854775807) (hr : Arcs w a l) (hr' : Arcs w a' l) :
    Calls Try.prog 34 #[.agg #[.int .i64 N, .slice a l.length cap], .agg #[.int .i64 N, .slice a' l.length cap']] w fun e w' => e = .returned (.bool true) ∧ Below w.heap.size w w' := by
  have hb0 : Below w.heap.size w ((w.alloc (.cells #[.int .i64 N, .slice a l.length cap] 24)).alloc (.cells #[.int .i64 N, .slice a' l.length cap'] 24)) := ((Below.refl _ _).alloc (Nat.le_refl _) _).alloc (by simp) _
  have hg : ((w.alloc (.cells #[.int .i64 N, .slice a l.length cap] 24)).alloc (.cells #[.int .i64 N, .slice a' l.length cap'] 24)).heap[w.heap.size]? = some (.cells #[.int .i64 N, .slice a l.length cap] 24) := (Below.heap_alloc _ _ _ (by simp)).trans (heap_top w _)
  have h1 := heap_top (w.alloc (.cells #[.int .i64 N, .slice a l.length cap] 24)) (.cells #[.int .i64 N, .slice a' l.length cap'] 24)
  rw [show (w.alloc (.cells #[.int .i64 N, .slice a l.length cap] 24)).heap.size = w.heap.size + 1 by simp] at h1
  generalize hW : (w.alloc (.cells #[.int .i64 N, .slice a l.length cap] 24)).alloc (.cells #[.int .i64 N, .slice a' l.length cap'] 24) = W at *
  obtain ⟨⟨g0, g1⟩, gf0, gf1⟩ := two_cells hg
  obtain ⟨⟨k0, k1⟩, kf0, kf1⟩ := two_cells h1
  have hrW := hr.on hb0
  have hrW' := hr'.on hb0
  obtain ⟨b, o, hab⟩ := hrW.b.get
  obtain ⟨b', o', hab'⟩ := hrW'.b.get
  go_enter Try.func34, Try.ntmps34
  go_wp2_with fail
  go_loopw [5] (fun i wr => ∃ k n : Nat, k ≤ l.length ∧ i = .int .i64 k ∧ wr = W.drewN n) (fun i _ => l.length - (intOf i).toNat)
  case atStart => exact ⟨0, 0, Nat.zero_le _, rfl, rfl⟩
  case round =>
    obtain ⟨k, n, hk, rfl, rfl⟩ := hrel
    by_cases hlt : k < l.length
    · obtain ⟨rfl, _, hc⟩ := hab (by omega)
      obtain ⟨rfl, _, hc'⟩ := hab' (by omega)
      obtain ⟨c0, c1, c2⟩ := hc k hlt
      obtain ⟨d0, d1, d2⟩ := hc' k hlt
      clear hc hc'
      generalize l.getD k A.zero = x at *
      go_wp2_with fail
      go_quiet (fail)
      go_wp2_with fail
      exact ⟨⟨k + 1, _, by omega, by go_num, rfl⟩, by simp [intOf]; omega⟩
    · go_wp2_with fail
      go_ret
      exact ⟨rfl, hb0.trans (below_drewN _ _ _)⟩
end Go.Proofs.Ytgpaoiddjlpcmaa.T3
namespace Go.Proofs.Ytgpaoiddjlpcmaa.T3
open Go.RowKit
/-- What is kept while it is filled: all below B but the variable, and what is of another type. -/
structure KpB (m B : Nat) (w w' : World) : Prop where
  os : w'.os = w.os
  tape : w'.tape = w.tape
  output : w'.output = w.output
  size : w.heap.size ≤ w'.heap.size
  block : ∀ k, k < B → k ≠ m → w'.heap[k]? = w.heap[k]?
  other : ∀ k o, w.heap[k]? = some o → k ≠ m → (∀ cur, o ≠ .cells cur 3 (0, 0)) → w'.heap[k]? = some o
theorem KpB.refl (m B : Nat) (w : World) : KpB m B w w := ⟨rfl, rfl, rfl, Nat.le_refl _, fun _ _ _ => rfl, fun _ _ h _ _ => h⟩
theorem KpB.trans {m B : Nat} {a b c : World} (h : KpB m B a b) (k : KpB m B b c) : KpB m B a c :=
  ⟨k.os.trans h.os, k.tape.trans h.tape, k.output.trans h.output, Nat.le_trans h.size k.size, fun i hi hm => (k.block i hi hm).trans (h.block i hi hm), fun i o ho hm ht => k.other i o (h.other i o ho hm ht) hm ht⟩
theorem KpB.of {m B : Nat} {a b : World} (h : Below a.heap.size a b) (hB : B ≤ a.heap.size) : KpB m B a b := ⟨h.os, h.tape, h.output, h.size, fun k hk _ => h.block k (by omega), fun k _ ho _ _ => (h.block k (lt_of_block ho)).trans ho⟩
theorem KpB.alloc {m B : Nat} {a b : World} (h : KpB m B a b) (hB : B ≤ b.heap.size) (o : Obj) : KpB m B a (b.alloc o) := h.trans (KpB.of ((Below.refl _ _).alloc (Nat.le_refl _) o) hB)
theorem KpB.below {m B C : Nat} {w0 w w' : World} (h : KpB m B w w') (hb : Below C w0 w) (hm : C ≤ m) (hB : C ≤ B) : Below C w0 w' :=
  hb.trans ⟨h.os, h.tape, h.output, h.size, fun k hk => h.block k (by omega) (by omega)⟩
/-- A block that stays while the list is filled. -/
def Safe (m B : Nat) (w : World) (b : Nat) : Prop := (b < B ∧ b ≠ m) ∨ (b ≠ m ∧ ∃ o, w.heap[b]? = some o ∧ ∀ cur, o ≠ .cells cur 3 (0, 0))
theorem Safe.same {m B b : Nat} {w w' : World} (h : Safe m B w b) (k : KpB m B w w') : w'.heap[b]? = w.heap[b]? := by
  rcases h with ⟨h1, h2⟩ | ⟨h1, o, ho, ht⟩
  · exact k.block b h1 h2
  · rw [ho]; exact k.other b o ho h1 ht
/-- Truths of a slice lie so in memory. -/
def Bools (P : Nat → Prop) (w : World) (a : Option Addr) (q : List Bool) : Prop :=
  q = [] ∨ ∃ b o, a = some ⟨b, o, none⟩ ∧ P b ∧ ∀ j, j < q.length → w.cell? ⟨b, o + j, none⟩ = some (.bool (q.getD j false))
theorem Bools.get {P : Nat → Prop} {w : World} {a : Option Addr} {q : List Bool} (h : Bools P w a q) : ∃ b o, 0 < q.length → a = some ⟨b, o, none⟩ ∧ P b ∧ ∀ j, j < q.length → w.cell? ⟨b, o + j, none⟩ = some (.bool (q.getD j false)) := by
  rcases h with rfl | ⟨b, o, h⟩
  · exact ⟨0, 0, fun h => absurd h (by simp)⟩
  · exact ⟨b, o, fun _ => h⟩
theorem Bools.imp {P Q : Nat → Prop} {w w' : World} {a : Option Addr} {q : List Bool} (h : Bools P w a q) (hp : ∀ b, P b → Q b) (hs : ∀ b, P b → w'.heap[b]? = w.heap[b]?) : Bools Q w' a q := by
  rcases h with h | ⟨b, o, rfl, hb, hc⟩
  · exact Or.inl h
  · exact Or.inr ⟨b, o, rfl, hp b hb, fun j hj => (World.cell?_of_block (w := w) (a := ⟨b, o + j, none⟩) (hs b hb)).trans (hc j hj)⟩
theorem Bools.on {B : Nat} {w w' : World} {a : Option Addr} {q : List Bool} (h : Bools (· < B) w a q) (hb : Below B w w') : Bools (· < B) w' a q := h.imp (fun _ h => h) (fun b h => hb.block b h)
/-- The marks as a test. -/
def mk (q : List Bool) (k : Nat) : Bool := q.getD k false
/-- Both ends of an arc are kept. -/
def both (q : Nat → Bool) (x : A) : Bool := q x.f.toNat && q x.t.toNat
end Go.Proofs.Ytgpaoiddjlpcmaa.T3
