import Derived.Test.YtaafkpojjdjphaaGreatChecked
import Derived.WalkKit
import Derived.BigCall
import Derived.Lib.Hide
import Derived.BigQuiet
namespace Go.Proofs.YtaafkpojjdjphaaGreat.T3
open Go.RowKit
structure A where
 f : Int
 t : Int
 w : Int
deriving DecidableEq
instance : Inhabited A := ⟨⟨0, 0, 0⟩⟩
def A.zero : A := ⟨0, 0, 0⟩
def A.at (x : A) (w : World) (b o : Nat) : Prop :=
 w.cell? ⟨b, o, none⟩ = some (.int .i64 x.f) ∧ w.cell? ⟨b, o + 1, none⟩ = some (.int .i64 x.t) ∧ w.cell? ⟨b, o + 2, none⟩ = some (.int .u32 x.w)
def Arcs (w : World) (a : Option Addr) (l : List A) : Prop :=
 l = [] ∨ ∃ b o, a = some ⟨b, o, none⟩ ∧ b < w.heap.size ∧ ∀ j, j < l.length → (l.getD j A.zero).at w b (o + j * 3)
theorem A.at.on {x : A} {w w' : World} {b o : Nat} (h : x.at w b o) (hb : Below w.heap.size w w') : x.at w' b o := by
 have hl := World.block_lt_of_cell? w _ h.1
 exact ⟨(hb.cell hl).trans h.1, (hb.cell (p := ⟨b, o + 1, none⟩) hl).trans h.2.1, (hb.cell (p := ⟨b, o + 2, none⟩) hl).trans h.2.2⟩
theorem Arcs.on {w w' : World} {a : Option Addr} {l : List A} (h : Arcs w a l) (hb : Below w.heap.size w w') : Arcs w' a l := by
 rcases h with h | ⟨b, o, rfl, hl, hc⟩
 ·exact Or.inl h
 ·exact Or.inr ⟨b, o, rfl, Nat.lt_of_lt_of_le hl hb.size, fun j hj => (hc j hj).on hb⟩
def okV (N v : Int) : Bool := decide (0 ≤ v ∧ v < N)
theorem okV_t {N v : Int} (h : okV N v = true) : 0 ≤ v ∧ v < N := by simpa [okV] using h
def okA (N : Int) (x : A) : Bool := okV N x.f && okV N x.t
theorem okA_t {N : Int} {x : A} (h : okA N x = true) : okV N x.f = true ∧ okV N x.t = true := by simpa [okA] using h
def chkE (N : Int) (l : List A) : Int := if N < 1 ∨ 1024 < N then 1 else if 8192 < l.length then 2 else if l.all (okA N) then 0 else 30
theorem two_cells {w : World} {g : Nat} {a b : Value} {t : TypeId} (h : w.heap[g]? = some (.cells #[a, b] t)) : (w.cell? ⟨g, 0, none⟩ = some a ∧ w.cell? ⟨g, 1, none⟩ = some b) ∧ (w.frozen? ⟨g, 0, none⟩ = false ∧ w.frozen? ⟨g, 1, none⟩ = false) := by
 simp [World.cell?, World.frozen?, h]
theorem named {α : Sort _} (x : α) : ∃ y, Hid (x = y) := ⟨x, rfl⟩
theorem chk_zero {N : Int} {l : List A} (h : chkE N l = 0) : 1 ≤ N ∧ N ≤ 1024 ∧ l.length ≤ 8192 ∧ ∀ x ∈ l, (0 ≤ x.f ∧ x.f < N) ∧ (0 ≤ x.t ∧ x.t < N) := by
 unfold chkE at h
 split at h
 ·cases h
 split at h
 ·cases h
 split at h
 ·rename_i h1 h2 h3
  refine ⟨by omega, by omega, by omega, fun x hx => ?_⟩
  obtain ⟨h5, h6⟩ := okA_t (List.all_eq_true.1 h3 x hx)
  exact ⟨okV_t h5, okV_t h6⟩
 ·cases h
def cellsI (l : List Int) : List Value := l.map (Value.int .i64)
theorem cellsI_getD (xs : List Int) (k : Nat) (h : k < xs.length) : (cellsI xs)[k]? = some (.int .i64 (xs.getD k 0)) := by
 unfold cellsI
 simp [List.getD, List.getElem?_eq_getElem h]
def Kp (m : Nat) (w w' : World) : Prop := Below m w w' ∧ ∀ k o, w.heap[k]? = some o → k ≠ m → (∀ cur, o ≠ .cells cur 3 (0, 0)) → w'.heap[k]? = some o
theorem Kp.refl (m : Nat) (w : World) : Kp m w w := ⟨Below.refl _ _, fun _ _ h _ _ => h⟩
theorem Kp.trans {m : Nat} {a b c : World} (h : Kp m a b) (k : Kp m b c) : Kp m a c := ⟨h.1.trans k.1, fun i o ho hm ht => k.2 i o (h.2 i o ho hm ht) hm ht⟩
theorem Kp.of {m : Nat} {a b : World} (h : Below a.heap.size a b) (hm : m ≤ a.heap.size) : Kp m a b := ⟨h.mono hm, fun k _ ho _ _ => (h.block k (lt_of_block ho)).trans ho⟩
theorem Kp.alloc {m : Nat} {a b : World} (h : Kp m a b) (hm : m ≤ b.heap.size) (o : Obj) : Kp m a (b.alloc o) := h.trans (Kp.of ((Below.refl _ _).alloc (Nat.le_refl _) o) hm)
def ArcsB (B : Nat) (w : World) (a : Option Addr) (l : List A) : Prop :=
 l = [] ∨ ∃ b o, a = some ⟨b, o, none⟩ ∧ b < B ∧ ∀ j, j < l.length → (l.getD j A.zero).at w b (o + j * 3)
theorem A.at.onB {x : A} {w w' : World} {b o B : Nat} (h : x.at w b o) (hl : b < B) (hb : Below B w w') : x.at w' b o :=
 ⟨(hb.cell hl).trans h.1, (hb.cell (p := ⟨b, o + 1, none⟩) hl).trans h.2.1, (hb.cell (p := ⟨b, o + 2, none⟩) hl).trans h.2.2⟩
theorem ArcsB.on {B : Nat} {w w' : World} {a : Option Addr} {l : List A} (h : ArcsB B w a l) (hb : Below B w w') : ArcsB B w' a l := by
 rcases h with h | ⟨b, o, rfl, hl, hc⟩
 ·exact Or.inl h
 ·exact Or.inr ⟨b, o, rfl, hl, fun j hj => (hc j hj).onB hl hb⟩
theorem ArcsB.up {B B' : Nat} {w : World} {a : Option Addr} {l : List A} (h : ArcsB B w a l) (hb : B ≤ B') : ArcsB B' w a l := by
 rcases h with h | ⟨b, o, rfl, hl, hc⟩
 ·exact Or.inl h
 ·exact Or.inr ⟨b, o, rfl, Nat.lt_of_lt_of_le hl hb, hc⟩
theorem Arcs.b {w : World} {a : Option Addr} {l : List A} (h : Arcs w a l) : ArcsB w.heap.size w a l := h
theorem ArcsB.a {B : Nat} {w : World} {a : Option Addr} {l : List A} (h : ArcsB B w a l) (hb : B ≤ w.heap.size) : Arcs w a l := h.up hb
def ints (L : List Nat) : List Int := L.map (fun x : Nat => (x : Int))
theorem ints_len (L : List Nat) : (ints L).length = L.length := by unfold ints; simp
theorem ints_getD (L : List Nat) (k : Nat) : (ints L).getD k 0 = ((L.getD k 0 : Nat) : Int) := by
 unfold ints
 by_cases h : k < L.length
 ·simp [List.getD, List.getElem?_eq_getElem h]
 ·simp [List.getD, List.getElem?_eq_none (Nat.le_of_not_lt h)]
structure Rd (g : Nat) (w w' : World) : Prop where
 os : w'.os = w.os
 tape : w'.tape = w.tape
 output : w'.output = w.output
 size : w.heap.size ≤ w'.heap.size
 block : ∀ k, k < w.heap.size → k ≠ g → w'.heap[k]? = w.heap[k]?
theorem Rd.refl (g : Nat) (w : World) : Rd g w w := ⟨rfl, rfl, rfl, Nat.le_refl _, fun _ _ _ => rfl⟩
theorem Rd.trans {g : Nat} {a b c : World} (h : Rd g a b) (k : Rd g b c) : Rd g a c :=
 ⟨k.os.trans h.os, k.tape.trans h.tape, k.output.trans h.output, Nat.le_trans h.size k.size, fun i hi hn => (k.block i (Nat.lt_of_lt_of_le hi h.size) hn).trans (h.block i hi hn)⟩
def OwnL (w : World) (g n : Nat) (L : List Nat) : Prop := w.ownsRow g 3 1 (.slice (some ⟨g, 0, none⟩) n n) n (cellsI (ints L))
theorem OwnL.cell {w : World} {g n : Nat} {L : List Nat} (h : OwnL w g n L) (hl : L.length = n) (k : Nat) (hk : k < n) : w.cell? ⟨g, k, none⟩ = some (.int .i64 ((L.getD k 0 : Nat) : Int)) := by
 rw [World.ownsRow.cellAt h k (by omega), cellsI_getD _ k (by rw [ints_len]; omega), ints_getD]
structure KpB (m B : Nat) (w w' : World) : Prop where
 os : w'.os = w.os
 tape : w'.tape = w.tape
 output : w'.output = w.output
 size : w.heap.size ≤ w'.heap.size
 block : ∀ k, k < B → k ≠ m → w'.heap[k]? = w.heap[k]?
 other : ∀ k o, w.heap[k]? = some o → k ≠ m → (∀ cur, o ≠ .cells cur 3 (0, 0)) → w'.heap[k]? = some o
theorem KpB.refl (m B : Nat) (w : World) : KpB m B w w := ⟨rfl, rfl, rfl, Nat.le_refl _, fun _ _ _ => rfl, fun _ _ h _ _ => h⟩
theorem KpB.trans {m B : Nat} {a b c : World} (h : KpB m B a b) (k : KpB m B b c) : KpB m B a c :=
 ⟨k.os.trans h.os, k.tape.trans h.tape, k.output.trans h.output, Nat.le_trans h.size k.size, fun i hi hm => (k.block i hi hm).trans (h.block i hi hm), fun i o ho hm ht => k.other i o (h.other i o ho hm ht) hm ht⟩
theorem KpB.of {m B : Nat} {a b : World} (h : Below a.heap.size a b) (hB : B ≤ a.heap.size) : KpB m B a b := ⟨h.os, h.tape, h.output, h.size, fun k hk _ => h.block k (by omega), fun k _ ho _ _ => (h.block k (lt_of_block ho)).trans ho⟩
theorem KpB.alloc {m B : Nat} {a b : World} (h : KpB m B a b) (hB : B ≤ b.heap.size) (o : Obj) : KpB m B a (b.alloc o) := h.trans (KpB.of ((Below.refl _ _).alloc (Nat.le_refl _) o) hB)
def Bools (P : Nat → Prop) (w : World) (a : Option Addr) (q : List Bool) : Prop :=
 q = [] ∨ ∃ b o, a = some ⟨b, o, none⟩ ∧ P b ∧ ∀ j, j < q.length → w.cell? ⟨b, o + j, none⟩ = some (.bool (q.getD j false))
theorem Bools.imp {P Q : Nat → Prop} {w w' : World} {a : Option Addr} {q : List Bool} (h : Bools P w a q) (hp : ∀ b, P b → Q b) (hs : ∀ b, P b → w'.heap[b]? = w.heap[b]?) : Bools Q w' a q := by
 rcases h with h | ⟨b, o, rfl, hb, hc⟩
 ·exact Or.inl h
 ·exact Or.inr ⟨b, o, rfl, hp b hb, fun j hj => (World.cell?_of_block (w := w) (a := ⟨b, o + j, none⟩) (hs b hb)).trans (hc j hj)⟩
theorem Bools.on {B : Nat} {w w' : World} {a : Option Addr} {q : List Bool} (h : Bools (· < B) w a q) (hb : Below B w w') : Bools (· < B) w' a q := h.imp (fun _ h => h) (fun b h => hb.block b h)
theorem below_drewN (B : Nat) (w : World) (k : Nat) : Below B w (w.drewN k) := ⟨rfl, rfl, rfl, Nat.le_refl _, fun _ _ => rfl⟩
def Ints (w : World) (a : Option Addr) (xs : List Int) : Prop :=
 xs = [] ∨ ∃ b o, a = some ⟨b, o, none⟩ ∧ b < w.heap.size ∧ ∀ j, j < xs.length → w.cell? ⟨b, o + j, none⟩ = some (.int .i64 (xs.getD j 0))
theorem Ints.on {w w' : World} {a : Option Addr} {xs : List Int} (h : Ints w a xs) (hb : Below w.heap.size w w') : Ints w' a xs := by
 rcases h with h | ⟨b, o, rfl, hl, hc⟩
 ·exact Or.inl h
 ·exact Or.inr ⟨b, o, rfl, Nat.lt_of_lt_of_le hl hb.size, fun j hj => (hb.cell (p := ⟨b, o + j, none⟩) hl).trans (hc j hj)⟩
def cellsB (l : List Bool) : List Value := l.map Value.bool
theorem cellsB_getD (xs : List Bool) (k : Nat) (h : k < xs.length) : (cellsB xs)[k]? = some (.bool (xs.getD k false)) := by
 unfold cellsB
 simp [List.getD, List.getElem?_eq_getElem h]
def OwnB (w : World) (g n : Nat) (L : List Bool) : Prop := w.ownsRow g 4 1 (.slice (some ⟨g, 0, none⟩) n n) n (cellsB L)
theorem OwnB.cell {w : World} {g n : Nat} {L : List Bool} (h : OwnB w g n L) (hl : L.length = n) (k : Nat) (hk : k < n) : w.cell? ⟨g, k, none⟩ = some (.bool (L.getD k false)) := by
 rw [World.ownsRow.cellAt h k (by omega), cellsB_getD _ k (by omega)]
def OwnZ (w : World) (g n : Nat) (L : List Int) : Prop := w.ownsRow g 3 1 (.slice (some ⟨g, 0, none⟩) n n) n (cellsI L)
theorem OwnZ.cell {w : World} {g n : Nat} {L : List Int} (h : OwnZ w g n L) (hl : L.length = n) (k : Nat) (hk : k < n) : w.cell? ⟨g, k, none⟩ = some (.int .i64 (L.getD k 0)) := by
 rw [World.ownsRow.cellAt h k (by omega), cellsI_getD L k (by omega)]
end Go.Proofs.YtaafkpojjdjphaaGreat.T3
