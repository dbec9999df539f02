/-
  What is kept while a heap is worked on: all blocks but its own.
-/
import Derived.Test.YtpmjbeiclmllmaaGreatNHBase
namespace Go.Proofs.YtpmjbeiclmllmaaGreat.N5.Hp
open Go.RowKit
/-- All blocks outside of D stay. -/
structure Fr (D : Nat → Prop) (w w' : World) : Prop where
  os : w'.os = w.os
  tape : w'.tape = w.tape
  output : w'.output = w.output
  size : w.heap.size ≤ w'.heap.size
  block : ∀ k, k < w.heap.size → ¬ D k → w'.heap[k]? = w.heap[k]?
theorem Fr.refl (D : Nat → Prop) (w : World) : Fr D w w := ⟨rfl, rfl, rfl, Nat.le_refl _, fun _ _ _ => rfl⟩
theorem Fr.trans {D D' : Nat → Prop} {a b c : World} (h : Fr D a b) (k : Fr D' b c) (hd : ∀ x, D' x → D x ∨ a.heap.size ≤ x) : Fr D a c :=
  ⟨k.os.trans h.os, k.tape.trans h.tape, k.output.trans h.output, Nat.le_trans h.size k.size, fun i hi hn => (k.block i (Nat.lt_of_lt_of_le hi h.size) (fun e => by rcases hd i e with e' | e'; exact hn e'; omega)).trans (h.block i hi hn)⟩
theorem Fr.then {D : Nat → Prop} {a b c : World} (h : Fr D a b) (k : Fr D b c) : Fr D a c := h.trans k (fun _ e => Or.inl e)
theorem Fr.of {D : Nat → Prop} {a b : World} (h : Below a.heap.size a b) : Fr D a b := ⟨h.os, h.tape, h.output, h.size, fun k hk _ => h.block k hk⟩
theorem Fr.alloc {D : Nat → Prop} {a b : World} (h : Fr D a b) (o : Obj) : Fr D a (b.alloc o) := h.then (Fr.of ((Below.refl _ _).alloc (Nat.le_refl _) o))
theorem Fr.drew {D : Nat → Prop} {a b : World} (h : Fr D a b) : Fr D a b.drew := ⟨h.os, h.tape, h.output, h.size, h.block⟩
theorem Fr.setCell {D : Nat → Prop} {a b : World} (h : Fr D a b) (p : Addr) (u : Value) (hp : D p.block ∨ a.heap.size ≤ p.block) : Fr D a (b.setCell p u) :=
  ⟨h.os, h.tape, h.output, by simpa using h.size, fun k hk hn => (Below.heap_setCell b p u k (fun e => by subst e; rcases hp with hp | hp; exact hn hp; omega)).trans (h.block k hk hn)⟩
theorem Fr.below {D : Nat → Prop} {a b : World} {B : Nat} (h : Fr D a b) (hB : B ≤ a.heap.size) (hd : ∀ x, D x → B ≤ x) : Below B a b :=
  ⟨h.os, h.tape, h.output, h.size, fun k hk => h.block k (by omega) (fun e => by have := hd k e; omega)⟩
theorem Fr.mono {D D' : Nat → Prop} {a b : World} (h : Fr D a b) (hd : ∀ x, D x → D' x) : Fr D' a b := ⟨h.os, h.tape, h.output, h.size, fun k hk hn => h.block k hk (fun e => hn (hd k e))⟩
/-- A heap's own blocks. -/
def Dof (h p : Nat) (v : Value) (k : Nat) : Prop := k = h ∨ k = p ∨ v.ownBlock = some k
section
variable {w w' : World} {h p : Nat} {v : Value} {n : Nat} {ms : List M} {pl : List Int}
theorem own_same {w w' : World} {base : Nat} {e : TypeId} {size : Nat} {v : Value} {n : Nat} {xs : List Value} (h : w.ownsRow base e size v n xs) (hs : ∀ k, v.ownBlock = some k → w'.heap[k]? = w.heap[k]?) : w'.ownsRow base e size v n xs := by
  refine ⟨h.1, ?_⟩
  rcases h.2 with h' | ⟨g, c, cur, rfl, h2, h3, h4⟩
  · exact Or.inl h'
  · exact Or.inr ⟨g, c, cur, rfl, h2, (hs g rfl).trans h3, h4⟩
theorem Rep.same (r : Rep w h p v n ms pl) (hs : ∀ k, Dof h p v k → w'.heap[k]? = w.heap[k]?) : Rep w' h p v n ms pl :=
  ⟨(hs h (Or.inl rfl)).trans r.hd, own_same r.own (fun k hk => hs k (Or.inr (Or.inr hk))), (hs p (Or.inr (Or.inl rfl))).trans r.pb, r.hp, r.hv, r.pv, r.pn, r.nb⟩
theorem Rep.lt (r : Rep w h p v n ms pl) : ∀ k, Dof h p v k → k < w.heap.size := by
  rintro k (rfl | rfl | hk)
  · exact lt_of_block r.hd
  · exact lt_of_block r.pb
  · exact (r.own.lt k hk).2
theorem Rep.on (r : Rep w h p v n ms pl) (hb : Below w.heap.size w w') : Rep w' h p v n ms pl := r.same (fun k hk => hb.block k (r.lt k hk))
theorem Rep.alloc (r : Rep w h p v n ms pl) (o : Obj) : Rep (w.alloc o) h p v n ms pl := r.on ((Below.refl _ _).alloc (Nat.le_refl _) o)
theorem Rep.drew (r : Rep w h p v n ms pl) : Rep w.drew h p v n ms pl := r.same (fun _ _ => rfl)
theorem Rep.fr {D : Nat → Prop} (r : Rep w h p v n ms pl) (f : Fr D w w') (hd : ∀ k, Dof h p v k → ¬ D k) : Rep w' h p v n ms pl := r.same (fun k hk => f.block k (r.lt k hk) (hd k hk))
theorem Rep.setP (r : Rep w h p v n ms pl) (x : Nat) (y : Int) : Rep (w.setCell ⟨p, x, none⟩ (.int .i64 y)) h p v n ms (pl.set x y) := by
  have hh : (w.setCell ⟨p, x, none⟩ (.int .i64 y)).heap[h]? = w.heap[h]? := heap_setCell_other w _ h _ r.hp
  refine ⟨hh.trans r.hd, own_same r.own (fun k hk => heap_setCell_other w _ k _ (fun e => r.pv (by rw [hk]; exact congrArg some e))), ?_, r.hp, r.hv, r.pv, by simp [r.pn], r.nb⟩
  rw [heap_setCell_same w p x _ _ _ r.pb]
  simp [cellsI_set]
theorem Rep.setM {g c : Nat} (r : Rep w h p (.slice (some ⟨g, 0, none⟩) ms.length c) n ms pl) (k : Nat) (m : M) (hk : k < ms.length) :
    Rep ((w.setCell ⟨g, k * 2, none⟩ (.int .i64 m.id)).setCell ⟨g, k * 2 + 1, none⟩ (.int .u64 m.key)) h p (.slice (some ⟨g, 0, none⟩) ms.length c) n (ms.set k m) pl := by
  have n1 : h ≠ g := fun e => r.hv (by rw [e]; rfl)
  have n2 : p ≠ g := fun e => r.pv (by rw [e]; rfl)
  refine ⟨?_, ?_, ?_, r.hp, r.hv, r.pv, r.pn, r.nb⟩
  · rw [heap_setCell_other _ _ h _ n1, heap_setCell_other _ _ h _ n1]; exact r.hd
  · have hlen := cellsM_len (ms.set k m)
    refine ⟨by simpa using hlen, ?_⟩
    rcases r.own.2 with ⟨h', _⟩ | ⟨g', c', cur, h', h2, h3, h4, h5, h6, h7⟩
    · cases h'
    · cases h'
      refine Or.inr ⟨g, c, (cur.setIfInBounds (k * 2) (.int .i64 m.id)).setIfInBounds (k * 2 + 1) (.int .u64 m.key), by simp, h2, ?_, by simpa using h4, h5, by simpa using h6, ?_⟩
      · exact heap_setCell_same _ g _ _ _ _ (heap_setCell_same _ g _ _ _ _ h3)
      · rw [← cellsM_set ms k m hk, ← h7]
        simp only [Array.toList_setIfInBounds, List.take_set, List.length_set]
  · rw [heap_setCell_other _ _ p _ n2, heap_setCell_other _ _ p _ n2]; exact r.pb
end
end Go.Proofs.YtpmjbeiclmllmaaGreat.N5.Hp
