import Derived.Deep.RegionHeld3
import Derived.Test.YtaafkpojjdjphaaGreatQNA
open Go.Lib (hid)
set_option maxRecDepth 100000
namespace Go.Proofs.YtaafkpojjdjphaaGreat.N5.Hp
open Go.RowKit
theorem named {α : Sort _} (x : α) : ∃ y, Hid (x = y) := ⟨x, rfl⟩
theorem heap_top (w : World) (o : Obj) : (w.alloc o).heap[w.heap.size]? = some o := by show (w.heap.push o)[w.heap.size]? = _; simp
theorem bthen {B : Nat} {w w1 w2 : World} (h : Below B w w1) (k : Below w1.heap.size w1 w2) (hB : B ≤ w1.heap.size) : Below B w w2 := h.trans (k.mono hB)
def cellsI (l : List Int) : List Value := l.map (Value.int .i64)
theorem cellsI_len (l : List Int) : (cellsI l).length = l.length := by unfold cellsI; simp
theorem cellsI_getD (xs : List Int) (k : Nat) (h : k < xs.length) : (cellsI xs)[k]? = some (.int .i64 (xs.getD k 0)) := by
 unfold cellsI
 simp [List.getD, List.getElem?_eq_getElem h]
theorem cellsI_set (xs : List Int) (k : Nat) (x : Int) : (cellsI xs).set k (.int .i64 x) = cellsI (xs.set k x) := by
 unfold cellsI
 rw [List.map_set]
def cellsM : List M → List Value
 | [] => []
 | m :: r => .int .i64 m.id :: .int .u64 m.key :: cellsM r
theorem cellsM_len (l : List M) : (cellsM l).length = l.length * 2 := by
 induction l with
 | nil => rfl
 | cons m r ih => simp [cellsM, ih]; omega
theorem cellsM_app (l r : List M) : cellsM (l ++ r) = cellsM l ++ cellsM r := by
 induction l with
 | nil => rfl
 | cons m l ih => simp [cellsM, ih]
theorem cellsM_get (l : List M) : ∀ k, k < l.length → (cellsM l)[k * 2]? = some (.int .i64 (gm l k).id) ∧ (cellsM l)[k * 2 + 1]? = some (.int .u64 (gm l k).key) := by
 induction l with
 | nil => intro k hk; simp at hk
 | cons m r ih =>
   intro k hk
   match k with
   | 0 => simp [cellsM, gm]
   | k + 1 =>
     have := ih k (by simpa using hk)
     rw [show (k + 1) * 2 = k * 2 + 1 + 1 by omega, show gm (m :: r) (k + 1) = gm r k by simp [gm]]
     simpa [cellsM] using this
theorem cellsM_set (l : List M) : ∀ k (x : M), k < l.length → ((cellsM l).set (k * 2) (.int .i64 x.id)).set (k * 2 + 1) (.int .u64 x.key) = cellsM (l.set k x) := by
 induction l with
 | nil => intro k x hk; simp at hk
 | cons m r ih =>
   intro k x hk
   match k with
   | 0 => simp [cellsM]
   | k + 1 =>
     have := ih k x (by simpa using hk)
     rw [show (k + 1) * 2 = k * 2 + 1 + 1 by omega]
     simpa [cellsM] using this
theorem cellsM_take (l : List M) (k : Nat) : (cellsM l).take (k * 2) = cellsM (l.take k) := by
 induction l generalizing k with
 | nil => simp [cellsM]
 | cons m r ih =>
   match k with
   | 0 => simp [cellsM]
   | k + 1 => rw [show (k + 1) * 2 = k * 2 + 1 + 1 by omega]; simp [cellsM, ih]
structure Rep (w : World) (h p : Nat) (v : Value) (n : Nat) (ms : List M) (pl : List Int) : Prop where
 hd : w.heap[h]? = some (.cells #[v, .slice (some ⟨p, 0, none⟩) n n, .func (.func 213) #[] #[]] 280 (0, 0))
 own : w.ownsRow 0 285 2 v ms.length (cellsM ms)
 pb : w.heap[p]? = some (.cells (cellsI pl).toArray 3 (0, 0))
 hp : h ≠ p
 hv : v.ownBlock ≠ some h
 pv : v.ownBlock ≠ some p
 pn : pl.length = n
 nb : n ≤ 16384
theorem cells3 {w : World} {g : Nat} {a b c : Value} {t : TypeId} (h : w.heap[g]? = some (.cells #[a, b, c] t)) : (w.cell? ⟨g, 0, none⟩ = some a ∧ w.cell? ⟨g, 1, none⟩ = some b ∧ w.cell? ⟨g, 2, none⟩ = some c) ∧ (w.frozen? ⟨g, 0, none⟩ = false ∧ w.frozen? ⟨g, 1, none⟩ = false ∧ w.frozen? ⟨g, 2, none⟩ = false) := by
 simp [World.cell?, World.frozen?, h]
theorem cells2 {w : World} {g : Nat} {a b : Value} {t : TypeId} (h : w.heap[g]? = some (.cells #[a, b] t)) : (w.cell? ⟨g, 0, none⟩ = some a ∧ w.cell? ⟨g, 1, none⟩ = some b) ∧ (w.frozen? ⟨g, 0, none⟩ = false ∧ w.frozen? ⟨g, 1, none⟩ = false) := by
 simp [World.cell?, World.frozen?, h]
theorem own_shape {w : World} {base : Nat} {e : TypeId} {size : Nat} {v : Value} {n : Nat} {xs : List Value} (h : w.ownsRow base e size v n xs) (hn : 0 < n) : ∃ g c, v = .slice (some ⟨g, 0, none⟩) n c ∧ n ≤ c ∧ g < w.heap.size ∧ c ≤ 9223372036854775807 := by
 rcases h.2 with ⟨_, h'⟩ | ⟨g, c, cur, h', hb, hg, hnc, hm, _⟩
 ·omega
 ·exact ⟨g, c, h', hnc, lt_of_block hg, hm⟩
theorem own_slice {w : World} {base : Nat} {e : TypeId} {size : Nat} {v : Value} {n : Nat} {xs : List Value} (h : w.ownsRow base e size v n xs) : ∃ a c, v = .slice a n c := by
 rcases h.2 with ⟨rfl, rfl⟩ | ⟨g, c, cur, rfl, _⟩
 ·exact ⟨none, 0, rfl⟩
 ·exact ⟨_, c, rfl⟩
theorem Rep.place {w : World} {h p : Nat} {v : Value} {n : Nat} {ms : List M} {pl : List Int} (r : Rep w h p v n ms pl) (x : Nat) (hx : x < n) : w.cell? ⟨p, x, none⟩ = some (.int .i64 (pl.getD x 0)) ∧ w.frozen? ⟨p, x, none⟩ = false := by
 have h1 := cellsI_getD pl x (by rw [r.pn]; exact hx)
 have hs : x < (cellsI pl).toArray.size := by simp [cellsI_len, r.pn]; exact hx
 refine ⟨?_, ?_⟩
 ·simp [World.cell?, r.pb]; exact h1
 ·simp [World.frozen?, r.pb]
theorem Rep.member {w : World} {h p : Nat} {g c : Nat} {n : Nat} {ms : List M} {pl : List Int} (r : Rep w h p (.slice (some ⟨g, 0, none⟩) ms.length c) n ms pl) (k : Nat) (hk : k < ms.length) :
  (w.cell? ⟨g, k * 2, none⟩ = some (.int .i64 (gm ms k).id) ∧ w.cell? ⟨g, k * 2 + 1, none⟩ = some (.int .u64 (gm ms k).key)) ∧ (w.frozen? ⟨g, k * 2, none⟩ = false ∧ w.frozen? ⟨g, k * 2 + 1, none⟩ = false) := by
 obtain ⟨a, b⟩ := cellsM_get ms k hk
 have h1 := r.own.cells (g := g) rfl _ _ a
 have h2 := r.own.cells (g := g) rfl _ _ b
 rcases r.own.2 with ⟨h', _⟩ | ⟨g', c', cur, h', _, hg, _⟩
 ·cases h'
 ·cases h'
  refine ⟨⟨?_, ?_⟩, ?_, ?_⟩
  ·have e : (⟨g, 0, none⟩ : Addr).add (k * 2) = ⟨g, k * 2, none⟩ := by unfold Addr.add; split <;> simp_all
   rw [e] at h1; exact h1
  ·simpa [Addr.add] using h2
  ·simp [World.frozen?, hg]
  ·simp [World.frozen?, hg]
set_option maxHeartbeats 400000 in
theorem nearer_any (a b : M) (w : World) :
  Calls Tryz.prog 213 #[.agg #[.int .i64 a.id, .int .u64 a.key], .agg #[.int .i64 b.id, .int .u64 b.key]] w fun e w' => e = .returned (.bool (ahead a b)) ∧ Below w.heap.size w w' := by
 by_cases h1 : a.key = b.key
 ·by_cases h2 : a.id < b.id
  ·have h2' : (a.id : Int) < b.id := by omega
   have hq : (a.key == b.key) = true := by simpa using h1
   rw [show ahead a b = true by simp [ahead, h1, h2]]
   clear h1 h2
   go_enter Tryz.func213, Tryz.ntmps213
   go_wp2_with fail
   go_ret
   exact ⟨rfl, ((Below.refl _ _).alloc (Nat.le_refl _) _).alloc (by simp) _⟩
  ·have h2' : ¬ (a.id : Int) < b.id := by omega
   have hq : (a.key == b.key) = true := by simpa using h1
   rw [show ahead a b = false by simp [ahead, h1, h2]]
   clear h1 h2
   go_enter Tryz.func213, Tryz.ntmps213
   go_wp2_with fail
   go_ret
   exact ⟨rfl, ((Below.refl _ _).alloc (Nat.le_refl _) _).alloc (by simp) _⟩
 ·have hq : (a.key == b.key) = false := beq_eq_false_iff_ne.2 h1
  by_cases h2 : a.key < b.key
  ·rw [show ahead a b = true by simp [ahead, h2]]
   clear h1
   go_enter Tryz.func213, Tryz.ntmps213
   go_wp2_with fail
   go_ret
   exact ⟨rfl, ((Below.refl _ _).alloc (Nat.le_refl _) _).alloc (by simp) _⟩
  ·rw [show ahead a b = false by simp [ahead, h1, h2]]
   clear h1
   go_enter Tryz.func213, Tryz.ntmps213
   go_wp2_with fail
   go_ret
   exact ⟨rfl, ((Below.refl _ _).alloc (Nat.le_refl _) _).alloc (by simp) _⟩
def okI (n : Nat) (x : Int) : Bool := decide (0 ≤ x ∧ x < n)
set_option maxHeartbeats 400000 in
theorem may_any {w : World} {h p : Nat} {v : Value} {n : Nat} {ms : List M} {pl : List Int} (r : Rep w h p v n ms pl) (x : Int) :
  Calls Tryz.prog 225 #[.pointer (some ⟨h, 0, none⟩), .int .i64 x] w fun e w' => e = .returned (.bool (okI n x)) ∧ w' = w := by
 obtain ⟨⟨c0, c1, c2⟩, f0, f1, f2⟩ := cells3 r.hd
 by_cases h1 : 0 ≤ x
 ·by_cases h2 : x < n
  ·rw [show okI n x = true by simp [okI, h1, h2]]
   go_enter Tryz.func225, Tryz.ntmps225
   go_wp2_with fail
   go_ret
   exact ⟨rfl, rfl⟩
  ·rw [show okI n x = false by simp [okI, h2]]
   go_enter Tryz.func225, Tryz.ntmps225
   go_wp2_with fail
   go_ret
   exact ⟨rfl, rfl⟩
 ·rw [show okI n x = false by simp [okI, h1]]
  go_enter Tryz.func225, Tryz.ntmps225
  go_wp2_with fail
  go_ret
  exact ⟨rfl, rfl⟩
set_option maxHeartbeats 400000 in
theorem find_any {w : World} {h p : Nat} {v : Value} {n : Nat} {ms : List M} {pl : List Int} (r : Rep w h p v n ms pl) (x : Nat) (hx : x < n) (q : Nat) (hq : pl.getD x 0 = q) (hq2 : q ≤ 16384) :
  Calls Tryz.prog 241 #[.pointer (some ⟨h, 0, none⟩), .int .i64 x] w fun e w' => e = .returned (.tuple #[.int .i64 ((q : Int) - 1), .bool (decide (0 < q))]) ∧ w' = w := by
 obtain ⟨⟨c0, c1, c2⟩, f0, f1, f2⟩ := cells3 r.hd
 obtain ⟨d0, _⟩ := r.place x hx
 rw [hq] at d0
 clear hq
 by_cases h1 : 0 < q
 ·rw [show decide (0 < q) = true by simpa using h1]
  have h1' : decide (1 ≤ (q : Int)) = true := by simp; omega
  go_enter Tryz.func241, Tryz.ntmps241
  go_wp2_with fail
  go_ret2
  exact ⟨rfl, rfl⟩
 ·rw [show decide (0 < q) = false by simpa using h1]
  have h1' : decide (1 ≤ (q : Int)) = false := by simp; omega
  go_enter Tryz.func241, Tryz.ntmps241
  go_wp2_with fail
  go_ret2
  exact ⟨rfl, rfl⟩
structure Fr (D : Nat → Prop) (w w' : World) : Prop where
 os : w'.os = w.os
 tape : w'.tape = w.tape
 output : w'.output = w.output
 size : w.heap.size ≤ w'.heap.size
 block : ∀ k, k < w.heap.size → ¬ D k → w'.heap[k]? = w.heap[k]?
theorem Fr.refl (D : Nat → Prop) (w : World) : Fr D w w := ⟨rfl, rfl, rfl, Nat.le_refl _, fun _ _ _ => rfl⟩
theorem Fr.trans {D D' : Nat → Prop} {a b c : World} (h : Fr D a b) (k : Fr D' b c) (hd : ∀ x, D' x → D x ∨ a.heap.size ≤ x) : Fr D a c :=
 ⟨k.os.trans h.os, k.tape.trans h.tape, k.output.trans h.output, Nat.le_trans h.size k.size, fun i hi hn => (k.block i (Nat.lt_of_lt_of_le hi h.size) (fun e => by rcases hd i e with e' | e'; exact hn e'; omega)).trans (h.block i hi hn)⟩
theorem Fr.then {D : Nat → Prop} {a b c : World} (h : Fr D a b) (k : Fr D b c) : Fr D a c := h.trans k (fun _ e => Or.inl e)
theorem Fr.of {D : Nat → Prop} {a b : World} (h : Below a.heap.size a b) : Fr D a b := ⟨h.os, h.tape, h.output, h.size, fun k hk _ => h.block k hk⟩
theorem Fr.alloc {D : Nat → Prop} {a b : World} (h : Fr D a b) (o : Obj) : Fr D a (b.alloc o) := h.then (Fr.of ((Below.refl _ _).alloc (Nat.le_refl _) o))
theorem Fr.drew {D : Nat → Prop} {a b : World} (h : Fr D a b) : Fr D a b.drew := ⟨h.os, h.tape, h.output, h.size, h.block⟩
theorem Fr.setCell {D : Nat → Prop} {a b : World} (h : Fr D a b) (p : Addr) (u : Value) (hp : D p.block ∨ a.heap.size ≤ p.block) : Fr D a (b.setCell p u) :=
 ⟨h.os, h.tape, h.output, by simpa using h.size, fun k hk hn => (Below.heap_setCell b p u k (fun e => by subst e; rcases hp with hp | hp; exact hn hp; omega)).trans (h.block k hk hn)⟩
theorem Fr.below {D : Nat → Prop} {a b : World} {B : Nat} (h : Fr D a b) (hB : B ≤ a.heap.size) (hd : ∀ x, D x → B ≤ x) : Below B a b :=
 ⟨h.os, h.tape, h.output, h.size, fun k hk => h.block k (by omega) (fun e => by have := hd k e; omega)⟩
theorem Fr.mono {D D' : Nat → Prop} {a b : World} (h : Fr D a b) (hd : ∀ x, D x → D' x) : Fr D' a b := ⟨h.os, h.tape, h.output, h.size, fun k hk hn => h.block k hk (fun e => hn (hd k e))⟩
def Dof (h p : Nat) (v : Value) (k : Nat) : Prop := k = h ∨ k = p ∨ v.ownBlock = some k
section
variable {w w' : World} {h p : Nat} {v : Value} {n : Nat} {ms : List M} {pl : List Int}
theorem own_same {w w' : World} {base : Nat} {e : TypeId} {size : Nat} {v : Value} {n : Nat} {xs : List Value} (h : w.ownsRow base e size v n xs) (hs : ∀ k, v.ownBlock = some k → w'.heap[k]? = w.heap[k]?) : w'.ownsRow base e size v n xs := by
 refine ⟨h.1, ?_⟩
 rcases h.2 with h' | ⟨g, c, cur, rfl, h2, h3, h4⟩
 ·exact Or.inl h'
 ·exact Or.inr ⟨g, c, cur, rfl, h2, (hs g rfl).trans h3, h4⟩
theorem Rep.same (r : Rep w h p v n ms pl) (hs : ∀ k, Dof h p v k → w'.heap[k]? = w.heap[k]?) : Rep w' h p v n ms pl :=
 ⟨(hs h (Or.inl rfl)).trans r.hd, own_same r.own (fun k hk => hs k (Or.inr (Or.inr hk))), (hs p (Or.inr (Or.inl rfl))).trans r.pb, r.hp, r.hv, r.pv, r.pn, r.nb⟩
theorem Rep.lt (r : Rep w h p v n ms pl) : ∀ k, Dof h p v k → k < w.heap.size := by
 rintro k (rfl | rfl | hk)
 ·exact lt_of_block r.hd
 ·exact lt_of_block r.pb
 ·exact (r.own.lt k hk).2
theorem Rep.on (r : Rep w h p v n ms pl) (hb : Below w.heap.size w w') : Rep w' h p v n ms pl := r.same (fun k hk => hb.block k (r.lt k hk))
theorem Rep.alloc (r : Rep w h p v n ms pl) (o : Obj) : Rep (w.alloc o) h p v n ms pl := r.on ((Below.refl _ _).alloc (Nat.le_refl _) o)
theorem Rep.drew (r : Rep w h p v n ms pl) : Rep w.drew h p v n ms pl := r.same (fun _ _ => rfl)
theorem Rep.setP (r : Rep w h p v n ms pl) (x : Nat) (y : Int) : Rep (w.setCell ⟨p, x, none⟩ (.int .i64 y)) h p v n ms (pl.set x y) := by
 have hh : (w.setCell ⟨p, x, none⟩ (.int .i64 y)).heap[h]? = w.heap[h]? := heap_setCell_other w _ h _ r.hp
 refine ⟨hh.trans r.hd, own_same r.own (fun k hk => heap_setCell_other w _ k _ (fun e => r.pv (by rw [hk]; exact congrArg some e))), ?_, r.hp, r.hv, r.pv, by simp [r.pn], r.nb⟩
 rw [heap_setCell_same w p x _ _ _ r.pb]
 simp [cellsI_set]
theorem Rep.setM {g c : Nat} (r : Rep w h p (.slice (some ⟨g, 0, none⟩) ms.length c) n ms pl) (k : Nat) (m : M) (hk : k < ms.length) :
  Rep ((w.setCell ⟨g, k * 2, none⟩ (.int .i64 m.id)).setCell ⟨g, k * 2 + 1, none⟩ (.int .u64 m.key)) h p (.slice (some ⟨g, 0, none⟩) ms.length c) n (ms.set k m) pl := by
 have n1 : h ≠ g := fun e => r.hv (by rw [e]; rfl)
 have n2 : p ≠ g := fun e => r.pv (by rw [e]; rfl)
 refine ⟨?_, ?_, ?_, r.hp, r.hv, r.pv, r.pn, r.nb⟩
 ·rw [heap_setCell_other _ _ h _ n1, heap_setCell_other _ _ h _ n1]; exact r.hd
 ·have hlen := cellsM_len (ms.set k m)
  refine ⟨by simpa using hlen, ?_⟩
  rcases r.own.2 with ⟨h', _⟩ | ⟨g', c', cur, h', h2, h3, h4, h5, h6, h7⟩
  ·cases h'
  ·cases h'
   refine Or.inr ⟨g, c, (cur.setIfInBounds (k * 2) (.int .i64 m.id)).setIfInBounds (k * 2 + 1) (.int .u64 m.key), by simp, h2, ?_, by simpa using h4, h5, by simpa using h6, ?_⟩
   ·exact heap_setCell_same _ g _ _ _ _ (heap_setCell_same _ g _ _ _ _ h3)
   ·rw [← cellsM_set ms k m hk, ← h7]
    simp only [Array.toList_setIfInBounds, List.take_set, List.length_set]
 ·rw [heap_setCell_other _ _ p _ n2, heap_setCell_other _ _ p _ n2]; exact r.pb
end
set_option maxHeartbeats 1600000 in
theorem put_any {w : World} {h p : Nat} {v : Value} {n : Nat} {ms : List M} {pl : List Int} (r : Rep w h p v n ms pl) (k : Nat) (hk : k < ms.length) (m : M) (hm : m.id < n) (hl : ms.length ≤ 16384) :
  Calls Tryz.prog 227 #[.pointer (some ⟨h, 0, none⟩), .int .i64 k, .agg #[.int .i64 m.id, .int .u64 m.key]] w fun e w' => e = .returned (.tuple #[]) ∧ Rep w' h p v n (ms.set k m) (pl.set m.id (k + 1)) ∧ Fr (Dof h p v) w w' := by
 obtain ⟨g, c, rfl, hc1, hg1, hc2⟩ := own_shape r.own (by omega)
 obtain ⟨⟨c0, c1, c2⟩, f0, f1, f2⟩ := cells3 r.hd
 obtain ⟨⟨d0, d1⟩, e0, e1⟩ := r.member k hk
 obtain ⟨p0, q0⟩ := r.place m.id hm
 have s0 := lt_of_block r.hd
 have s1 := lt_of_block r.pb
 have n1 : g ≠ h := fun e => r.hv (by rw [e]; rfl)
 have n2 : g ≠ p := fun e => r.pv (by rw [e]; rfl)
 have n3 := r.hp
 have R1 := hid (r.setM k m hk)
 have F1 := hid (((Fr.refl (Dof h p (.slice (some ⟨g, 0, none⟩) ms.length c)) w).setCell ⟨g, k * 2, none⟩ (.int .i64 m.id) (Or.inl (Or.inr (Or.inr rfl)))).setCell ⟨g, k * 2 + 1, none⟩ (.int .u64 m.key) (Or.inl (Or.inr (Or.inr rfl))))
 go_enter Tryz.func227, Tryz.ntmps227
 go_wp2_with fail
 go_region
 go_wp2_with fail
 go_region
 go_wp2_with fail
 go_end0
 exact ⟨rfl, (((R1.out.setP m.id ((k : Int) + 1)).alloc _).drew).drew, (((F1.out.setCell ⟨p, m.id, none⟩ _ (Or.inl (Or.inr (Or.inl rfl)))).alloc _).drew).drew⟩
theorem nearer_is (a b : M) (t : Bool) (ht : ahead a b = t) (w : World) :
  Calls Tryz.prog 213 #[.agg #[.int .i64 a.id, .int .u64 a.key], .agg #[.int .i64 b.id, .int .u64 b.key]] w fun e w' => e = .returned (.bool t) ∧ Below w.heap.size w w' := ht ▸ nearer_any a b w
set_option maxHeartbeats 1600000 in
theorem up_any {w : World} {h p : Nat} {v : Value} {n : Nat} {ms : List M} {pl : List Int} (r : Rep w h p v n ms pl) (T : Nat → Option Int) (k : Nat) (m : M) (hl : ms.length ≤ 16384) (g : PG n ms pl T k m) (o3 : O3 ms k m) :
  Calls Tryz.prog 228 #[.pointer (some ⟨h, 0, none⟩), .int .i64 k, .agg #[.int .i64 m.id, .int .u64 m.key]] w fun e w' => ∃ (k' : Nat) (ms' : List M) (pl' : List Int), e = .returned (.int .i64 k') ∧ Rep w' h p v n ms' pl' ∧ PG n ms' pl' T k' m ∧ O3 ms' k' m ∧ (k' = 0 ∨ le (gm ms' ((k' - 1) / 2)) m) ∧ ms'.length = ms.length ∧ Fr (Dof h p v) w w' := by
 have hkl := g.kl
 obtain ⟨N, HN⟩ := named ms.length
 rw [HN.out] at hkl hl ⊢
 obtain ⟨b, c, hv, hc1, hg1, hc2⟩ := own_shape r.own (by have := HN.out; omega)
 rw [HN.out] at hv hc1
 subst hv
 have r0 := r.alloc (.cells #[.int .i64 m.id, .int .u64 m.key] 285)
 have t0 := heap_top w (.cells #[.int .i64 m.id, .int .u64 m.key] 285)
 have fr0 := (Fr.refl (Dof h p (.slice (some ⟨b, 0, none⟩) N c)) w).alloc (.cells #[.int .i64 m.id, .int .u64 m.key] 285)
 go_enter Tryz.func228, Tryz.ntmps228
 go_wp2_with fail
 go_loopw [1] (fun i wr => ∃ (k : Nat) (ms' : List M) (pl' : List Int), i = .int .i64 k ∧ Rep wr h p (.slice (some ⟨b, 0, none⟩) N c) n ms' pl' ∧ PG n ms' pl' T k m ∧ O3 ms' k m ∧ Hid (ms'.length = N) ∧ wr.heap[w.heap.size]? = some (.cells #[.int .i64 m.id, .int .u64 m.key] 285) ∧ Fr (Dof h p (.slice (some ⟨b, 0, none⟩) N c)) w wr) (fun i _ => (intOf i).toNat)
 case atStart => exact ⟨k, ms, pl, rfl, r0, g, o3, HN, t0, fr0⟩
 case round =>
  obtain ⟨k, ms', pl', rfl, r', g', o3', HL, tb, fr⟩ := hrel
  have hkl' := g'.kl
  rw [HL.out] at hkl'
  by_cases h0 : 0 < k
  ·have h0' : (0 : Int) < k := by omega
   obtain ⟨⟨c0, c1, c2⟩, f0, f1, f2⟩ := cells3 r'.hd
   obtain ⟨⟨b0, b1⟩, _, _⟩ := cells2 tb
   have ha2 : (k - 1) / 2 < N := by omega
   have r'' := r'
   rw [← HL.out] at r''
   obtain ⟨⟨d0, d1⟩, e0, e1⟩ := r''.member ((k - 1) / 2) (by rw [HL.out]; exact ha2)
   clear r''
   have hdiv : ((k : Int) - 1) / 2 = (((k - 1) / 2 : Nat) : Int) := by omega
   have s0 := lt_of_block r'.hd
   have s1 := lt_of_block tb
   have s2 : b < wr.heap.size := r'.lt b (Or.inr (Or.inr rfl))
   have HUP := hid (g'.up o3' h0)
   have HLE := hid (fun (hh : ahead m (gm ms' ((k - 1) / 2)) = false) => le_f hh)
   have hAm := (g'.mem ((k - 1) / 2) (by rw [HL.out]; exact ha2) (by omega)).1
   have HA2 : Hid ((k - 1) / 2 < k) := by show _ < _; omega
   generalize hA : (k - 1) / 2 = A at *
   obtain ⟨X, HX⟩ := named (gm ms' A)
   rw [HX.out] at d0 d1 HUP HLE hAm
   obtain ⟨t, HT⟩ := named (ahead m X)
   have HTO := HT.out
   rw [HTO] at HUP HLE
   have HTT := hid HTO
   clear HTO
   have hA' := hid hA
   clear hA
   cases t with
   | true =>
     have HP := hid (HUP.out rfl)
     clear HUP HLE r0 t0 fr0
     go_wp2_with fail
     go_region_held3 (fun w' => w'.cell? ⟨h, 0, none⟩ = some (.slice (some ⟨b, 0, none⟩) N c) ∧ w'.cell? ⟨h, 2, none⟩ = some (.func (.func 213) #[] #[]) ∧ w'.cell? ⟨w.heap.size, 0, none⟩ = some (.int .i64 m.id) ∧ w'.cell? ⟨w.heap.size, 1, none⟩ = some (.int .u64 m.key) ∧ w'.cell? ⟨b, A * 2, none⟩ = some (.int .i64 X.id) ∧ w'.cell? ⟨b, A * 2 + 1, none⟩ = some (.int .u64 X.key)) (go_keep) ((refine (nearer_is m X true HTT.out _).mono ?_; rintro e w2 ⟨rfl, hb2⟩; have k0 := (hb2.cell (p := ⟨h, 0, none⟩) s0).trans c0; have k2 := (hb2.cell (p := ⟨h, 2, none⟩) s0).trans c2; have k3 := (hb2.cell (p := ⟨w.heap.size, 0, none⟩) s1).trans b0; have k4 := (hb2.cell (p := ⟨w.heap.size, 1, none⟩) s1).trans b1; have k5 := (hb2.cell (p := ⟨b, A * 2, none⟩) s2).trans d0; have k6 := (hb2.cell (p := ⟨b, A * 2 + 1, none⟩) s2).trans d1))
     have r2 : Rep w2 h p (.slice (some ⟨b, 0, none⟩) N c) n ms' pl' := r'.drew.on hb2
     have tb2 := (hb2.block _ s1).trans tb
     have fr2 : Fr (Dof h p (.slice (some ⟨b, 0, none⟩) N c)) w w2 := fr.drew.then (Fr.of hb2)
     clear hb2 r' tb fr c0 c1 c2 f0 f1 f2 b0 b1 d0 d1 e0 e1
     go_wp2_with fail
     refine (put_any r2 k (by rw [HL.out]; exact hkl') X hAm (by rw [HL.out]; exact hl)).mono ?_
     rintro e w3 ⟨rfl, r3, fr3⟩
     go_wp2_with fail
     have h9 := HA2.out
     exact ⟨⟨A, ms'.set k X, pl'.set X.id (k + 1), rfl, r3, HP.out.1, HP.out.2, by show _ = _; rw [List.length_set]; exact HL.out, ((fr3.block _ (lt_of_block tb2) (fun hd => by have := r.lt _ hd; omega)).trans tb2), fr2.then fr3⟩, by simp [intOf]; omega⟩
   | false =>
     have HP := hid (HLE.out rfl)
     clear HUP HLE r0 t0 fr0
     go_wp2_with fail
     go_region_held3 (fun w' => w'.cell? ⟨h, 0, none⟩ = some (.slice (some ⟨b, 0, none⟩) N c) ∧ w'.cell? ⟨h, 2, none⟩ = some (.func (.func 213) #[] #[]) ∧ w'.cell? ⟨w.heap.size, 0, none⟩ = some (.int .i64 m.id) ∧ w'.cell? ⟨w.heap.size, 1, none⟩ = some (.int .u64 m.key) ∧ w'.cell? ⟨b, A * 2, none⟩ = some (.int .i64 X.id) ∧ w'.cell? ⟨b, A * 2 + 1, none⟩ = some (.int .u64 X.key)) (go_keep) ((refine (nearer_is m X false HTT.out _).mono ?_; rintro e w2 ⟨rfl, hb2⟩; have k0 := (hb2.cell (p := ⟨h, 0, none⟩) s0).trans c0; have k2 := (hb2.cell (p := ⟨h, 2, none⟩) s0).trans c2; have k3 := (hb2.cell (p := ⟨w.heap.size, 0, none⟩) s1).trans b0; have k4 := (hb2.cell (p := ⟨w.heap.size, 1, none⟩) s1).trans b1; have k5 := (hb2.cell (p := ⟨b, A * 2, none⟩) s2).trans d0; have k6 := (hb2.cell (p := ⟨b, A * 2 + 1, none⟩) s2).trans d1))
     have r2 : Rep w2 h p (.slice (some ⟨b, 0, none⟩) N c) n ms' pl' := r'.drew.on hb2
     have fr2 : Fr (Dof h p (.slice (some ⟨b, 0, none⟩) N c)) w w2 := fr.drew.then (Fr.of hb2)
     clear hb2 r' tb fr c0 c1 c2 f0 f1 f2 b0 b1 d0 d1 e0 e1
     go_wp2_with fail
     go_ret
     exact ⟨k, ms', pl', rfl, r2, g', o3', Or.inr (by rw [hA'.out, HX.out]; exact HP.out), HL.out, fr2⟩
  ·go_wp2_with fail
   go_ret
   exact ⟨k, ms', pl', rfl, r', g', o3', Or.inl (by omega), HL.out, fr⟩
def fb (ms : List M) (k : Nat) : Nat := if ms.length ≤ 2 * k + 1 then ms.length else if 2 * k + 2 < ms.length ∧ ahead (gm ms (2 * k + 2)) (gm ms (2 * k + 1)) = true then 2 * k + 2 else 2 * k + 1
theorem fb_none {ms : List M} {k : Nat} (h : ms.length ≤ 2 * k + 1) : fb ms k = ms.length := by rw [fb, if_pos h]
theorem fb_right {ms : List M} {k : Nat} (h : 2 * k + 2 < ms.length) (h2 : ahead (gm ms (2 * k + 2)) (gm ms (2 * k + 1)) = true) : fb ms k = 2 * k + 2 := by rw [fb, if_neg (by omega), if_pos ⟨h, h2⟩]
theorem fb_left {ms : List M} {k : Nat} (h : 2 * k + 1 < ms.length) (h2 : ms.length ≤ 2 * k + 2 ∨ ahead (gm ms (2 * k + 2)) (gm ms (2 * k + 1)) = false) : fb ms k = 2 * k + 1 := by
 rw [fb, if_neg (by omega), if_neg]
 rintro ⟨a, b⟩
 rcases h2 with h2 | h2
 ·omega
 ·rw [h2] at b; cases b
theorem fb_spec {ms : List M} {k : Nat} (h : fb ms k ≠ ms.length) : fb ms k < ms.length ∧ 0 < fb ms k ∧ (fb ms k - 1) / 2 = k ∧ ∀ i, 0 < i → i < ms.length → (i - 1) / 2 = k → le (gm ms (fb ms k)) (gm ms i) := by
 by_cases h1 : ms.length ≤ 2 * k + 1
 ·exact absurd (fb_none h1) h
 ·by_cases h2 : 2 * k + 2 < ms.length
  ·cases h3 : ahead (gm ms (2 * k + 2)) (gm ms (2 * k + 1)) with
   | true =>
     rw [fb_right h2 h3]
     refine ⟨h2, by omega, by omega, fun i a b c => ?_⟩
     have : i = 2 * k + 1 ∨ i = 2 * k + 2 := by omega
     rcases this with rfl | rfl
     ·exact le_t h3
     ·exact le_rfl _
   | false =>
     rw [fb_left (by omega) (Or.inr h3)]
     refine ⟨by omega, by omega, by omega, fun i a b c => ?_⟩
     have : i = 2 * k + 1 ∨ i = 2 * k + 2 := by omega
     rcases this with rfl | rfl
     ·exact le_rfl _
     ·exact le_f h3
  ·rw [fb_left (by omega) (Or.inl (by omega))]
   refine ⟨by omega, by omega, by omega, fun i a b c => ?_⟩
   have : i = 2 * k + 1 := by omega
   subst this
   exact le_rfl _
theorem fb_o3 {ms : List M} {k : Nat} {m : M} (h : fb ms k = ms.length) : O3 ms k m := by
 by_cases h1 : ms.length ≤ 2 * k + 1
 ·intro i a b c; omega
 ·exfalso
  unfold fb at h
  rw [if_neg h1] at h
  split at h <;> omega
theorem fb_o3' {ms : List M} {k : Nat} {m : M} (h : fb ms k ≠ ms.length) (ha : ahead (gm ms (fb ms k)) m = false) : O3 ms k m := by
 intro i a b c
 exact (le_f ha).trans ((fb_spec h).2.2.2 i a b c)
set_option maxHeartbeats 1600000 in
theorem fb_any {w : World} {h p : Nat} {v : Value} {n : Nat} {ms : List M} {pl : List Int} (r : Rep w h p v n ms pl) (k : Nat) (hk : k < ms.length) (hl : ms.length ≤ 16384) :
  Calls Tryz.prog 242 #[.pointer (some ⟨h, 0, none⟩), .int .i64 k] w fun e w' => e = .returned (.int .i64 (fb ms k)) ∧ Below w.heap.size w w' := by
 obtain ⟨N, HN⟩ := named ms.length
 obtain ⟨b, c, hv, hc1, hg1, hc2⟩ := own_shape r.own (by omega)
 have r'' := r
 rw [hv] at r''
 rw [HN.out] at hk hl hv hc1
 subst hv
 obtain ⟨⟨c0, c1, c2⟩, f0, f1, f2⟩ := cells3 r.hd
 have s0 := lt_of_block r.hd
 have hw0 : (2 : Int) * k ≤ 40000 := by omega
 have hw1 : (0 : Int) ≤ k := by omega
 by_cases h1 : N ≤ 2 * k + 1
 ·have h1' : (N : Int) ≤ 2 * k + 1 := by omega
  rw [fb_none (by rw [HN.out]; exact h1), HN.out]
  clear r''
  go_enter Tryz.func242, Tryz.ntmps242
  go_wp2_with fail
  go_ret
  exact ⟨rfl, Below.refl _ _⟩
 ·have h1' : ¬ (N : Int) ≤ 2 * k + 1 := by omega
  by_cases h2 : 2 * k + 2 < N
  ·have h2' : (2 : Int) * k + 2 < N := by omega
   obtain ⟨⟨d0, d1⟩, _⟩ := r''.member (2 * k + 2) (by rw [HN.out]; exact h2)
   obtain ⟨⟨x0, x1⟩, _⟩ := r''.member (2 * k + 1) (by rw [HN.out]; omega)
   have HR := hid (fun h3 => fb_right (ms := ms) (k := k) (by rw [HN.out]; exact h2) h3)
   have HF := hid (fun h3 => fb_left (ms := ms) (k := k) (by rw [HN.out]; omega) (Or.inr h3))
   clear r''
   obtain ⟨X, HX⟩ := named (gm ms (2 * k + 2))
   obtain ⟨Y, HY⟩ := named (gm ms (2 * k + 1))
   rw [HX.out] at d0 d1 HR HF
   rw [HY.out] at x0 x1 HR HF
   obtain ⟨t, HT⟩ := named (ahead X Y)
   have HTO := HT.out
   rw [HTO] at HR HF
   have HTT := hid HTO
   clear HTO
   have hd : decide ((2 : Int) * k + 2 < N) = true := by simpa using h2'
   have hL : (2 : Int) * k + 1 = ((2 * k + 1 : Nat) : Int) := by omega
   have hR : (2 : Int) * k + 2 = ((2 * k + 2 : Nat) : Int) := by omega
   generalize 2 * k + 1 = A at *
   generalize 2 * k + 2 = B at *
   rw [hL] at h1'
   rw [hR] at h2' hd
   cases t with
   | true =>
     have HP := HR.out rfl
     clear HR HF
     rw [HP]
     clear HP
     go_enter Tryz.func242, Tryz.ntmps242
     go_wp2_with fail
     go_region_held3 (fun w' => w'.cell? ⟨h, 0, none⟩ = some (.slice (some ⟨b, 0, none⟩) N c) ∧ w'.cell? ⟨h, 2, none⟩ = some (.func (.func 213) #[] #[]) ∧ w'.cell? ⟨b, B * 2, none⟩ = some (.int .i64 X.id) ∧ w'.cell? ⟨b, B * 2 + 1, none⟩ = some (.int .u64 X.key) ∧ w'.cell? ⟨b, A * 2, none⟩ = some (.int .i64 Y.id) ∧ w'.cell? ⟨b, A * 2 + 1, none⟩ = some (.int .u64 Y.key)) (go_keep) ((refine (nearer_is X Y true HTT.out _).mono ?_; rintro e w2 ⟨rfl, hb2⟩; have k0 := (hb2.cell (p := ⟨h, 0, none⟩) s0).trans c0; have k2 := (hb2.cell (p := ⟨h, 2, none⟩) s0).trans c2; have k3 := (hb2.cell (p := ⟨b, B * 2, none⟩) hg1).trans d0; have k4 := (hb2.cell (p := ⟨b, B * 2 + 1, none⟩) hg1).trans d1; have k5 := (hb2.cell (p := ⟨b, A * 2, none⟩) hg1).trans x0; have k6 := (hb2.cell (p := ⟨b, A * 2 + 1, none⟩) hg1).trans x1))
     go_wp2_with fail
     go_ret
     exact ⟨rfl, (Below.refl _ _).drew.trans hb2⟩
   | false =>
     have HP := HF.out rfl
     clear HR HF
     rw [HP]
     clear HP
     go_enter Tryz.func242, Tryz.ntmps242
     go_wp2_with fail
     go_region_held3 (fun w' => w'.cell? ⟨h, 0, none⟩ = some (.slice (some ⟨b, 0, none⟩) N c) ∧ w'.cell? ⟨h, 2, none⟩ = some (.func (.func 213) #[] #[]) ∧ w'.cell? ⟨b, B * 2, none⟩ = some (.int .i64 X.id) ∧ w'.cell? ⟨b, B * 2 + 1, none⟩ = some (.int .u64 X.key) ∧ w'.cell? ⟨b, A * 2, none⟩ = some (.int .i64 Y.id) ∧ w'.cell? ⟨b, A * 2 + 1, none⟩ = some (.int .u64 Y.key)) (go_keep) ((refine (nearer_is X Y false HTT.out _).mono ?_; rintro e w2 ⟨rfl, hb2⟩; have k0 := (hb2.cell (p := ⟨h, 0, none⟩) s0).trans c0; have k2 := (hb2.cell (p := ⟨h, 2, none⟩) s0).trans c2; have k3 := (hb2.cell (p := ⟨b, B * 2, none⟩) hg1).trans d0; have k4 := (hb2.cell (p := ⟨b, B * 2 + 1, none⟩) hg1).trans d1; have k5 := (hb2.cell (p := ⟨b, A * 2, none⟩) hg1).trans x0; have k6 := (hb2.cell (p := ⟨b, A * 2 + 1, none⟩) hg1).trans x1))
     go_wp2_with fail
     go_ret
     exact ⟨rfl, (Below.refl _ _).drew.trans hb2⟩
  ·have hd : decide ((2 : Int) * k + 2 < N) = false := by simp; omega
   rw [fb_left (by rw [HN.out]; omega) (Or.inl (by rw [HN.out]; omega))]
   clear r''
   go_enter Tryz.func242, Tryz.ntmps242
   go_wp2_with fail
   go_quiet (fail)
   go_wp2_with fail
   go_ret
   exact ⟨by simp, ⟨rfl, rfl, rfl, Nat.le_refl _, fun _ _ => rfl⟩⟩
end Go.Proofs.YtaafkpojjdjphaaGreat.N5.Hp
