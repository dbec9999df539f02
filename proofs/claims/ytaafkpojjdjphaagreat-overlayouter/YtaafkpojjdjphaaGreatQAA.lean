import Derived.Deep.LoopGhost
import Derived.Test.YtaafkpojjdjphaaGreatQNA
import Derived.Test.YtaafkpojjdjphaaGreatQTA
open Go.Lib (hid)
set_option maxRecDepth 100000
namespace Go.Proofs.YtaafkpojjdjphaaGreat
open Go.RowKit
structure A where
 f : Int
 t : Int
 w : Int
deriving DecidableEq
instance : Inhabited A := ⟨⟨0, 0, 0⟩⟩
def A.zero : A := ⟨0, 0, 0⟩
def A.at (x : A) (w : World) (b o : Nat) : Prop :=
 w.cell? ⟨b, o, none⟩ = some (.int .i64 x.f) ∧ w.cell? ⟨b, o + 1, none⟩ = some (.int .i64 x.t) ∧ w.cell? ⟨b, o + 2, none⟩ = some (.int .u32 x.w)
def Arcs (w : World) (a : Option Addr) (l : List A) : Prop :=
 l = [] ∨ ∃ b o, a = some ⟨b, o, none⟩ ∧ b < w.heap.size ∧ ∀ j, j < l.length → (l.getD j A.zero).at w b (o + j * 3)
theorem A.at.on {x : A} {w w' : World} {b o : Nat} (h : x.at w b o) (hb : Below w.heap.size w w') : x.at w' b o := by
 have hl := World.block_lt_of_cell? w _ h.1
 exact ⟨(hb.cell hl).trans h.1, (hb.cell (p := ⟨b, o + 1, none⟩) hl).trans h.2.1, (hb.cell (p := ⟨b, o + 2, none⟩) hl).trans h.2.2⟩
theorem Arcs.on {w w' : World} {a : Option Addr} {l : List A} (h : Arcs w a l) (hb : Below w.heap.size w w') : Arcs w' a l := by
 rcases h with h | ⟨b, o, rfl, hl, hc⟩
 ·exact Or.inl h
 ·exact Or.inr ⟨b, o, rfl, Nat.lt_of_lt_of_le hl hb.size, fun j hj => (hc j hj).on hb⟩
def okV (N v : Int) : Bool := decide (0 ≤ v ∧ v < N)
theorem okV_t {N v : Int} (h : okV N v = true) : 0 ≤ v ∧ v < N := by simpa [okV] using h
def okA (N : Int) (x : A) : Bool := okV N x.f && okV N x.t
theorem okA_t {N : Int} {x : A} (h : okA N x = true) : okV N x.f = true ∧ okV N x.t = true := by simpa [okA] using h
def chkE (N : Int) (l : List A) : Int := if N < 1 ∨ 1024 < N then 1 else if 8192 < l.length then 2 else if l.all (okA N) then 0 else 30
def chkAt (N : Int) (l : List A) : Int := if N < 1 ∨ 1024 < N then 0 else if 8192 < l.length then 0 else if l.all (okA N) then 0 else (l.findIdx (fun x => !okA N x) : Nat)
set_option maxHeartbeats 400000 in
theorem vert_any (N v : Int) (a : Option Addr) (n cap : Nat) (w : World) :
  Calls Tryz.prog 170 #[.agg #[.int .i64 N, .slice a n cap], .int .i64 v] w fun e w' => e = .returned (.bool (okV N v)) ∧ Below w.heap.size w w' := by
 by_cases h1 : 0 ≤ v
 ·by_cases h2 : v < N
  ·rw [show okV N v = true by simp [okV, h1, h2]]
   go_enter Tryz.func170, Tryz.ntmps170
   go_wp2_with fail
   go_ret
   exact ⟨rfl, (Below.refl _ _).alloc (Nat.le_refl _) _⟩
  ·rw [show okV N v = false by simp [okV, h2]]
   go_enter Tryz.func170, Tryz.ntmps170
   go_wp2_with fail
   go_ret
   exact ⟨rfl, (Below.refl _ _).alloc (Nat.le_refl _) _⟩
 ·rw [show okV N v = false by simp [okV, h1]]
  go_enter Tryz.func170, Tryz.ntmps170
  go_wp2_with fail
  go_ret
  exact ⟨rfl, (Below.refl _ _).alloc (Nat.le_refl _) _⟩
theorem all_take {l : List A} {p : A → Bool} {k : Nat} (hk : k < l.length) (h : (l.take k).all p = true) (hp : p (l.getD k A.zero) = true) : (l.take (k + 1)).all p = true := by
 rw [List.take_succ_eq_append_getElem hk, List.all_append, h]
 have e : l.getD k A.zero = l[k] := by simp [List.getD, List.getElem?_eq_getElem hk]
 rw [e] at hp
 simp [hp]
theorem find_at {l : List A} {p : A → Bool} {k : Nat} (hk : k < l.length) (h : (l.take k).all p = true) (hp : p (l.getD k A.zero) = false) : l.all p = false ∧ l.findIdx (fun x => !p x) = k := by
 have e : l.getD k A.zero = l[k] := by simp [List.getD, List.getElem?_eq_getElem hk]
 rw [e] at hp
 constructor
 ·rw [List.all_eq_false]
  exact ⟨l[k], List.getElem_mem hk, by simp [hp]⟩
 ·rw [List.findIdx_eq hk]
  refine ⟨by simp [hp], fun j hj => ?_⟩
  have h2 := List.all_eq_true.1 h (l[j]) (by rw [List.mem_take_iff_getElem]; exact ⟨j, by omega, rfl⟩)
  simp [h2]
theorem heap_top (w : World) (o : Obj) : (w.alloc o).heap[w.heap.size]? = some o := by show (w.heap.push o)[w.heap.size]? = _; simp
theorem keep1 {w w2 : World} {o o' : Obj} {g : Nat} (hg : w.heap[g]? = some o') (hb : Below (w.alloc o).heap.size (w.alloc o) w2) : w2.heap[g]? = some o' ∧ w2.heap[w.heap.size]? = some o := by
 have hl := lt_of_block hg
 exact ⟨(hb.block g (by simp; omega)).trans ((Below.heap_alloc w o g hl).trans hg), (hb.block w.heap.size (by simp)).trans (heap_top w o)⟩
theorem bthen {B : Nat} {w w1 w2 : World} (h : Below B w w1) (k : Below w1.heap.size w1 w2) (hB : B ≤ w1.heap.size) : Below B w w2 := h.trans (k.mono hB)
theorem two_cells {w : World} {g : Nat} {a b : Value} {t : TypeId} (h : w.heap[g]? = some (.cells #[a, b] t)) : (w.cell? ⟨g, 0, none⟩ = some a ∧ w.cell? ⟨g, 1, none⟩ = some b) ∧ (w.frozen? ⟨g, 0, none⟩ = false ∧ w.frozen? ⟨g, 1, none⟩ = false) := by
 simp [World.cell?, World.frozen?, h]
theorem three_cells {w : World} {g : Nat} {a b c : Value} {t : TypeId} (h : w.heap[g]? = some (.cells #[a, b, c] t)) : w.cell? ⟨g, 0, none⟩ = some a ∧ w.cell? ⟨g, 1, none⟩ = some b ∧ w.cell? ⟨g, 2, none⟩ = some c := by
 simp [World.cell?, h]
theorem named {α : Sort _} (x : α) : ∃ y, Hid (x = y) := ⟨x, rfl⟩
theorem chk_range {N : Int} {l : List A} (h : N < 1 ∨ 1024 < N) : chkE N l = 1 ∧ chkAt N l = 0 := by
 unfold chkE chkAt; rw [if_pos h, if_pos h]; exact ⟨rfl, rfl⟩
theorem chk_long {N : Int} {l : List A} (h : ¬ (N < 1 ∨ 1024 < N)) (h3 : 8192 < l.length) : chkE N l = 2 ∧ chkAt N l = 0 := by
 unfold chkE chkAt; rw [if_neg h, if_neg h, if_pos h3, if_pos h3]; exact ⟨rfl, rfl⟩
theorem chk_ok {N : Int} {l : List A} (h : ¬ (N < 1 ∨ 1024 < N)) (h3 : ¬ 8192 < l.length) (h4 : l.all (okA N) = true) : chkE N l = 0 ∧ chkAt N l = 0 := by
 unfold chkE chkAt; rw [if_neg h, if_neg h, if_neg h3, if_neg h3, if_pos h4, if_pos h4]; exact ⟨rfl, rfl⟩
theorem chk_bad {N : Int} {l : List A} {k : Nat} (h : ¬ (N < 1 ∨ 1024 < N)) (h3 : ¬ 8192 < l.length) (h4 : l.all (okA N) = false ∧ l.findIdx (fun x => !okA N x) = k) : chkE N l = 30 ∧ chkAt N l = k := by
 unfold chkE chkAt; rw [if_neg h, if_neg h, if_neg h3, if_neg h3, h4.1, h4.2]; exact ⟨rfl, rfl⟩
theorem chk_zero {N : Int} {l : List A} (h : chkE N l = 0) : 1 ≤ N ∧ N ≤ 1024 ∧ l.length ≤ 8192 ∧ ∀ x ∈ l, (0 ≤ x.f ∧ x.f < N) ∧ (0 ≤ x.t ∧ x.t < N) := by
 unfold chkE at h
 split at h
 ·cases h
 split at h
 ·cases h
 split at h
 ·rename_i h1 h2 h3
  refine ⟨by omega, by omega, by omega, fun x hx => ?_⟩
  obtain ⟨h5, h6⟩ := okA_t (List.all_eq_true.1 h3 x hx)
  exact ⟨okV_t h5, okV_t h6⟩
 ·cases h
set_option maxHeartbeats 800000 in
theorem check_any (N : Int) (a : Option Addr) (l : List A) (cap : Nat) (w : World) (hl : l.length ≤ 9223372036854775807) (hr : Arcs w a l) :
  Calls Tryz.prog 105 #[.agg #[.int .i64 N, .slice a l.length cap]] w fun e w' => e = .returned (.tuple #[.int .i64 (chkAt N l), .int .i64 (chkE N l)]) ∧ Below w.heap.size w w' := by
 by_cases h1 : N < 1
 ·rw [(chk_range (l := l) (Or.inl h1)).1, (chk_range (l := l) (Or.inl h1)).2]
  go_enter Tryz.func105, Tryz.ntmps105
  go_wp2_with fail
  go_ret2
  exact ⟨rfl, (Below.refl _ _).alloc (Nat.le_refl _) _⟩
 by_cases h2 : 1024 < N
 ·rw [(chk_range (l := l) (Or.inr h2)).1, (chk_range (l := l) (Or.inr h2)).2]
  go_enter Tryz.func105, Tryz.ntmps105
  go_wp2_with fail
  go_ret2
  exact ⟨rfl, (Below.refl _ _).alloc (Nat.le_refl _) _⟩
 have hN : ¬ (N < 1 ∨ 1024 < N) := by omega
 by_cases h3 : 8192 < l.length
 ·have h3' : (8192 : Int) < l.length := by omega
  rw [(chk_long hN h3).1, (chk_long hN h3).2]
  clear hN
  go_enter Tryz.func105, Tryz.ntmps105
  go_wp2_with fail
  go_ret2
  exact ⟨rfl, (Below.refl _ _).alloc (Nat.le_refl _) _⟩
 have h3' : ¬ (8192 : Int) < l.length := by omega
 have HN := hid hN
 clear hN
 obtain ⟨E, HE⟩ := named (chkE N l)
 obtain ⟨T, HAT⟩ := named (chkAt N l)
 rw [HE.out, HAT.out]
 have hb0 : Below w.heap.size w (w.alloc (.cells #[.int .i64 N, .slice a l.length cap] 24)) := (Below.refl _ _).alloc (Nat.le_refl _) _
 obtain ⟨b, o, hab⟩ : ∃ b o, 0 < l.length → a = some ⟨b, o, none⟩ ∧ b < w.heap.size ∧ ∀ j, j < l.length → (l.getD j A.zero).at w b (o + j * 3) := by
  rcases hr with rfl | ⟨b, o, h⟩
  ·exact ⟨0, 0, fun h => absurd h (by simp)⟩
  ·exact ⟨b, o, fun _ => h⟩
 go_enter Tryz.func105, Tryz.ntmps105
 go_wp2_with fail
 go_loopw [21] (fun i wr => ∃ k : Nat, k ≤ l.length ∧ i = .int .i64 k ∧ Hid ((l.take k).all (okA N) = true) ∧ wr.heap[w.heap.size]? = some (.cells #[.int .i64 N, .slice a l.length cap] 24) ∧ Below w.heap.size w wr) (fun i _ => l.length - (intOf i).toNat)
 case atStart => exact ⟨0, Nat.zero_le _, rfl, by show _ = _; simp, heap_top w _, hb0⟩
 case round =>
  obtain ⟨k, hk, rfl, hall, hg, hb⟩ := hrel
  obtain ⟨⟨g0, g1⟩, gf0, gf1⟩ := two_cells hg
  have hsz : w.heap.size < wr.heap.size := lt_of_block hg
  by_cases hlt : k < l.length
  ·obtain ⟨rfl, hbl, hat⟩ := hab (by omega)
   obtain ⟨c0, c1, c2⟩ := (hat k hlt).on hb
   have HT := hid (fun (h : okA N (l.getD k A.zero) = true) => all_take hlt hall.out h)
   have HF := hid (fun (h : okA N (l.getD k A.zero) = false) => find_at hlt hall.out h)
   generalize l.getD k A.zero = x at *
   go_wp2_with fail
   refine (vert_any N x.f _ _ _ _).mono ?_
   rintro e w2 ⟨rfl, hb2⟩
   obtain ⟨hg2, hx2⟩ := keep1 hg hb2
   have s2 : wr.heap.size < w2.heap.size := lt_of_block hx2
   have b2 : Below w.heap.size w w2 := bthen (hb.alloc (by omega) _) hb2 (by simp; omega)
   clear hb2 hg g0 g1 gf0 gf1 c0 c1 c2 hb
   obtain ⟨⟨g0, g1⟩, gf0, gf1⟩ := two_cells hg2
   obtain ⟨c0, c1, c2⟩ := three_cells hx2
   by_cases h5 : okV N x.f = true
   ·rw [h5]
    go_wp2_with fail
    refine (vert_any N x.t _ _ _ _).mono ?_
    rintro e w3 ⟨rfl, hb3⟩
    have hg3 := (hb3.block _ (lt_of_block hg2)).trans hg2
    have b3 : Below w.heap.size w w3 := bthen b2 hb3 (by omega)
    clear hb3 hg2 g0 g1 gf0 gf1 c0 c1 c2 b2 hx2
    by_cases h6 : okV N x.t = true
    ·rw [h6]
     have hA : okA N x = true := by simp [okA, h5, h6]
     go_wp2_with fail
     exact ⟨⟨k + 1, by omega, by go_num, HT.out hA, hg3, b3⟩, by simp [intOf]; omega⟩
    ·have h6' : okV N x.t = false := by simpa using h6
     rw [h6']
     have hE := chk_bad HN.out h3 (HF.out (by simp [okA, h6']))
     rw [HE.out, HAT.out] at hE
     obtain ⟨rfl, rfl⟩ := hE
     go_wp2_with fail
     go_ret2
     exact ⟨rfl, b3⟩
   ·have h5' : okV N x.f = false := by simpa using h5
    rw [h5']
    have hE := chk_bad HN.out h3 (HF.out (by simp [okA, h5']))
    rw [HE.out, HAT.out] at hE
    obtain ⟨rfl, rfl⟩ := hE
    go_wp2_with fail
    go_ret2
    exact ⟨rfl, b2⟩
  ·have hE := chk_ok HN.out h3 (by have := hall.out; rw [List.take_of_length_le (by omega)] at this; exact this)
   rw [HE.out, HAT.out] at hE
   obtain ⟨rfl, rfl⟩ := hE
   go_wp2_with fail
   go_ret2
   exact ⟨rfl, hb⟩
theorem info3 : (Tryz.prog.info? 3).map (fun i => (i.zero, i.size, i.bytes)) = some (some (.int .i64 0), 1, 8) := by kernel_rfl
theorem info4 : (Tryz.prog.info? 4).map (fun i => (i.zero, i.size, i.bytes)) = some (some (.bool false), 1, 1) := by kernel_rfl
def TbV (w : World) (b n : Nat) (ty : TypeId) (V : Nat → Value) : Prop := w.heap[b]? = some (.cells ((List.range n).map V).toArray ty (0, 0))
theorem TbV.lt {w : World} {b n : Nat} {ty : TypeId} {V : Nat → Value} (h : TbV w b n ty V) : b < w.heap.size := lt_of_block h
theorem TbV.same {w w' : World} {b n : Nat} {ty : TypeId} {V : Nat → Value} (h : TbV w b n ty V) (hs : w'.heap[b]? = w.heap[b]?) : TbV w' b n ty V := hs.trans h
theorem TbV.cell {w : World} {b n : Nat} {ty : TypeId} {V : Nat → Value} (h : TbV w b n ty V) {v : Nat} (hv : v < n) : w.cell? ⟨b, v, none⟩ = some (V v) := by
 unfold TbV at h
 simp [World.cell?, h, hv]
theorem TbV.free {w : World} {b n : Nat} {ty : TypeId} {V : Nat → Value} (h : TbV w b n ty V) (v : Nat) : w.frozen? ⟨b, v, none⟩ = false := by
 unfold TbV at h
 simp [World.frozen?, h]
theorem TbV.congr {w : World} {b n : Nat} {ty : TypeId} {V U : Nat → Value} (h : TbV w b n ty V) (e : ∀ v, v < n → V v = U v) : TbV w b n ty U := by
 unfold TbV at *
 rw [h]
 congr 3
 apply List.map_congr_left
 intro v hv
 rw [e v (by simpa using hv)]
def updV (V : Nat → Value) (x : Nat) (d : Value) : Nat → Value := fun y => if y = x then d else V y
theorem updV_self (V : Nat → Value) (x : Nat) (d : Value) : updV V x d x = d := by simp [updV]
theorem updV_ne (V : Nat → Value) {x y : Nat} (d : Value) (h : y ≠ x) : updV V x d y = V y := by simp [updV, h]
theorem tabV_set (n : Nat) (V : Nat → Value) (v : Nat) (x : Value) : ((List.range n).map V).toArray.setIfInBounds v x = ((List.range n).map (updV V v x)).toArray := by
 apply Array.ext'
 simp only [Array.toList_setIfInBounds]
 apply List.ext_getElem?
 intro i
 rw [List.getElem?_set]
 by_cases e : v = i
 ·subst e
  by_cases h : v < n
  ·simp [h, updV_self]
  ·simp [h]
 ·rw [if_neg e]
  by_cases h : i < n
  ·simp [h, updV_ne V x (fun h : i = v => e h.symm)]
  ·simp [h]
theorem TbV.set {w : World} {b n : Nat} {ty : TypeId} {V : Nat → Value} (h : TbV w b n ty V) (v : Nat) (x : Value) : TbV (w.setCell ⟨b, v, none⟩ x) b n ty (updV V v x) := by
 unfold TbV
 rw [heap_setCell_same w b v _ _ _ h, tabV_set]
structure Fr (D : Nat → Prop) (w w' : World) : Prop where
 os : w'.os = w.os
 tape : w'.tape = w.tape
 output : w'.output = w.output
 size : w.heap.size ≤ w'.heap.size
 block : ∀ k, k < w.heap.size → ¬ D k → w'.heap[k]? = w.heap[k]?
theorem Fr.refl (D : Nat → Prop) (w : World) : Fr D w w := ⟨rfl, rfl, rfl, Nat.le_refl _, fun _ _ _ => rfl⟩
theorem Fr.setCell {D : Nat → Prop} {a b : World} (h : Fr D a b) (p : Addr) (u : Value) (hp : D p.block) : Fr D a (b.setCell p u) :=
 ⟨h.os, h.tape, h.output, by have := h.size; simpa [World.setCell] using this, fun k hk hn => (Below.heap_setCell b p u k (fun e => hn (e ▸ hp))).trans (h.block k hk hn)⟩
theorem Fr.drew {D : Nat → Prop} {a b : World} (h : Fr D a b) : Fr D a b.drew := ⟨h.os, h.tape, h.output, h.size, h.block⟩
theorem Fr.trans {D : Nat → Prop} {a b c : World} (h : Fr D a b) (h2 : Fr D b c) : Fr D a c :=
 ⟨h2.os.trans h.os, h2.tape.trans h.tape, h2.output.trans h.output, Nat.le_trans h.size h2.size, fun k hk hn => (h2.block k (Nat.lt_of_lt_of_le hk h.size) hn).trans (h.block k hk hn)⟩
theorem Fr.alloc {D : Nat → Prop} {a b : World} (h : Fr D a b) (o : Obj) : Fr D a (b.alloc o) :=
 ⟨h.os, h.tape, h.output, by have := h.size; simp; omega, fun k hk hn => (Below.heap_alloc b o k (Nat.lt_of_lt_of_le hk h.size)).trans (h.block k hk hn)⟩
theorem Fr.below {D : Nat → Prop} {w w' : World} (h : Fr D w w') {B : Nat} (hB : B ≤ w.heap.size) (hd : ∀ k, D k → B ≤ k) : Below B w w' :=
 ⟨h.os, h.tape, h.output, h.size, fun k hk => h.block k (Nat.lt_of_lt_of_le hk hB) (fun e => absurd (hd k e) (Nat.not_le.2 hk))⟩
theorem made_int (n : Nat) : madeCells (Value.int .i64 0).cells (n * 1) = ((List.range n).map (fun _ => Value.int .i64 0)).toArray := by
 apply Array.ext'
 show (madeCells #[Value.int .i64 0] (n * 1)).toList = _
 rw [toList_madeCells_one, Nat.mul_one]
 apply List.ext_getElem
 ·simp
 ·intro i h1 h2
  simp
theorem made_bool (n : Nat) : madeCells (Value.bool false).cells (n * 1) = ((List.range n).map (fun _ => Value.bool false)).toArray := by
 apply Array.ext'
 show (madeCells #[Value.bool false] (n * 1)).toList = _
 rw [toList_madeCells_one, Nat.mul_one]
 apply List.ext_getElem
 ·simp
 ·intro i h1 h2
  simp
def cellsI (l : List Int) : List Value := l.map (Value.int .i64)
theorem cellsI_len (l : List Int) : (cellsI l).length = l.length := by unfold cellsI; simp
theorem cellsI_snoc (l : List Int) (x : Int) : cellsI l ++ [.int .i64 x] = cellsI (l ++ [x]) := by unfold cellsI; simp
theorem cellsI_getD (xs : List Int) (k : Nat) (h : k < xs.length) : (cellsI xs)[k]? = some (.int .i64 (xs.getD k 0)) := by
 unfold cellsI
 simp [List.getD, List.getElem?_eq_getElem h]
theorem one_i64 (x : Int) : ∀ u ∈ [Value.int .i64 x], u.oneCell' = true := by intro u hu; simp at hu; subst hu; rfl
theorem one_new (w : World) (x : Int) : ∀ j u, [Value.int .i64 x][j]? = some u → (w.alloc (.cells #[.int .i64 x] 3)).cell? ((⟨w.heap.size, 0, none⟩ : Addr).add j) = some u := by
 intro j u hu
 match j, hu with
 | 0, hu => simp at hu; subst hu; simp [Addr.add]
def ints (q : List Nat) : List Int := q.map (fun x : Nat => (x : Int))
theorem ints_len (q : List Nat) : (ints q).length = q.length := by simp [ints]
theorem ints_snoc (q : List Nat) (v : Nat) : ints (q ++ [v]) = ints q ++ [(v : Int)] := by simp [ints]
theorem ints_getD {q : List Nat} {i : Nat} (hi : i < q.length) : (ints q).getD i 0 = ((q.getD i 0 : Nat) : Int) := by
 simp [ints, List.getD, List.getElem?_eq_getElem hi]
theorem below_drewN (B : Nat) (w : World) (k : Nat) : Below B w (w.drewN k) := ⟨rfl, rfl, rfl, Nat.le_refl _, fun _ _ => rfl⟩
theorem own_on {w w' : World} {base : Nat} {e : TypeId} {size : Nat} {v : Value} {k : Nat} {xs : List Value} (h : w.ownsRow base e size v k xs) (hb : Below w.heap.size w w') : w'.ownsRow base e size v k xs := by
 refine ⟨h.1, ?_⟩
 rcases h.2 with h' | ⟨g, c, cur, h1, h2, h3, h4⟩
 ·exact Or.inl h'
 ·exact Or.inr ⟨g, c, cur, h1, h2, (hb.block g (lt_of_block h3)).trans h3, h4⟩
theorem own_set {w : World} {base : Nat} {e : TypeId} {size : Nat} {v : Value} {n : Nat} {xs : List Value} (h : w.ownsRow base e size v n xs) (p : Addr) (u : Value) (hp : p.block < base) : (w.setCell p u).ownsRow base e size v n xs := by
 refine ⟨h.1, ?_⟩
 rcases h.2 with h' | ⟨g, c, cur, h1, h2, h3, h4⟩
 ·exact Or.inl h'
 ·exact Or.inr ⟨g, c, cur, h1, h2, (Below.heap_setCell w p u g (fun e => by omega)).trans h3, h4⟩
theorem own_shape {w : World} {base : Nat} {e : TypeId} {size : Nat} {v : Value} {n : Nat} {xs : List Value} (h : w.ownsRow base e size v n xs) (hn : v ≠ .slice none 0 0) : ∃ g c, v = .slice (some ⟨g, 0, none⟩) n c ∧ base ≤ g ∧ n ≤ c ∧ g < w.heap.size ∧ c ≤ 9223372036854775807 := by
 rcases h.2 with ⟨h', _⟩ | ⟨g, c, cur, h', hb, hg, hnc, hm, _⟩
 ·exact absurd h' hn
 ·exact ⟨g, c, h', hb, hnc, lt_of_block hg, hm⟩
theorem own_base {w : World} {base base' : Nat} {e : TypeId} {size : Nat} {v : Value} {n : Nat} {xs : List Value} (h : w.ownsRow base e size v n xs) (hb : base' ≤ base) : w.ownsRow base' e size v n xs := by
 refine ⟨h.1, ?_⟩
 rcases h.2 with h' | ⟨g, c, cur, h1, h2, h3⟩
 ·exact Or.inl h'
 ·exact Or.inr ⟨g, c, cur, h1, Nat.le_trans hb h2, h3⟩
theorem own_slice {w : World} {base : Nat} {e : TypeId} {size : Nat} {v : Value} {n : Nat} {xs : List Value} (h : w.ownsRow base e size v n xs) : ∃ a c, v = .slice a n c := by
 rcases h.2 with ⟨rfl, rfl⟩ | ⟨g, c, cur, rfl, _⟩
 ·exact ⟨none, 0, rfl⟩
 ·exact ⟨_, c, rfl⟩
theorem own_cell {w : World} {base : Nat} {a : Option Addr} {n cap : Nat} {ys : List Int} (h : w.ownsRow base 3 1 (.slice a n cap) n (cellsI ys)) (hl : ys.length = n) {j : Nat} (hj : j < n) : ∃ g, a = some ⟨g, 0, none⟩ ∧ g < w.heap.size ∧ base ≤ g ∧ w.cell? ⟨g, j, none⟩ = some (.int .i64 (ys.getD j 0)) := by
 rcases h.2 with ⟨h1, h2⟩ | ⟨g, c, cur, h1, h2, h3, _⟩
 ·omega
 ·injection h1 with ha hb hc
  subst ha
  have := World.ownsRow.cellAt h j (by omega)
  refine ⟨g, rfl, lt_of_block h3, h2, ?_⟩
  rw [cellsI_getD ys j (by omega)] at this
  exact this
theorem info_parts {P : Program} {e : TypeId} {z : Value} {s b : Nat} (h : (P.info? e).map (fun i => (i.zero, i.size, i.bytes)) = some (some z, s, b)) : ∃ i, P.info? e = some i ∧ i.zero = some z ∧ i.size = s ∧ i.bytes = b := by
 cases hi : P.info? e with
 | none => rw [hi] at h; simp at h
 | some i => rw [hi] at h; simp at h; exact ⟨i, rfl, h.1, h.2.1, h.2.2⟩
def toN (x : A) : N5.A := ⟨x.f, x.t, x.w⟩
def Ints (w : World) (a : Option Addr) (xs : List Int) : Prop :=
 xs = [] ∨ ∃ b o, a = some ⟨b, o, none⟩ ∧ b < w.heap.size ∧ ∀ j, j < xs.length → w.cell? ⟨b, o + j, none⟩ = some (.int .i64 (xs.getD j 0))
theorem Ints.on {w w' : World} {a : Option Addr} {xs : List Int} (h : Ints w a xs) (hb : Below w.heap.size w w') : Ints w' a xs := by
 rcases h with h | ⟨b, o, rfl, hl, hc⟩
 ·exact Or.inl h
 ·exact Or.inr ⟨b, o, rfl, Nat.lt_of_lt_of_le hl hb.size, fun j hj => (hb.cell (p := ⟨b, o + j, none⟩) hl).trans (hc j hj)⟩
theorem ints_own {w : World} {B : Nat} {a : Option Addr} {c : Nat} {xs : List Int} (h : w.ownsRow B 3 1 (.slice a xs.length c) xs.length (cellsI xs)) : Ints w a xs := by
 by_cases h0 : xs = []
 ·exact Or.inl h0
 ·rcases h.2 with ⟨_, h'⟩ | ⟨g, c', cur, h', hb, hg, hnc, hm, _⟩
  ·exact absurd (List.eq_nil_of_length_eq_zero h') h0
  ·injection h' with e1 e2 e3
   subst e1
   refine Or.inr ⟨g, 0, rfl, lt_of_block hg, fun j hj => ?_⟩
   rw [Nat.zero_add, World.ownsRow.cellAt h j (by omega), cellsI_getD xs j hj]
theorem Ints.get {w : World} {a : Option Addr} {xs : List Int} (h : Ints w a xs) : ∃ b o, 0 < xs.length → a = some ⟨b, o, none⟩ ∧ b < w.heap.size ∧ ∀ j, j < xs.length → w.cell? ⟨b, o + j, none⟩ = some (.int .i64 (xs.getD j 0)) := by
 rcases h with rfl | ⟨b, o, h⟩
 ·exact ⟨0, 0, fun h => absurd h (by simp)⟩
 ·exact ⟨b, o, fun _ => h⟩
theorem own_ints {w : World} {base n cap : Nat} {a : Option Addr} {xs : List Nat} (h : w.ownsRow base 3 1 (.slice a n cap) n (cellsI (ints xs))) (hn : xs.length = n) : Ints w a (ints xs) := by
 rcases h.2 with ⟨e1, e2⟩ | ⟨g, c, cur, e1, _, h3, _⟩
 ·left
  rw [e2] at hn
  rw [List.eq_nil_of_length_eq_zero hn]; rfl
 ·injection e1 with e1 e2 e3
  subst e1
  right
  refine ⟨g, 0, rfl, lt_of_block h3, fun j hj => ?_⟩
  obtain ⟨g', e, _, _, hc⟩ := own_cell h (by rw [ints_len]; exact hn) (j := j) (by rw [ints_len] at hj; omega)
  injection e with e
  injection e with e
  subst e
  rw [Nat.zero_add]
  exact hc
def tdy : List Int → Int → Bool
 | [], _ => true
 | x :: r, nx => if x < 0 ∨ nx < x then false else tdy r (if x = nx then nx + 1 else nx)
theorem drop_getI {xs : List Int} {k : Nat} (h : k < xs.length) : xs.drop k = xs.getD k 0 :: xs.drop (k + 1) := by
 rw [List.drop_eq_getElem_cons h]
 simp [List.getD, List.getElem?_eq_getElem h]
theorem take_snocI {xs : List Int} {k : Nat} (h : k < xs.length) : xs.take (k + 1) = xs.take k ++ [xs.getD k 0] := by
 rw [List.take_succ_eq_append_getElem h]
 simp [List.getD, List.getElem?_eq_getElem h]
def szS (S : List Nat) (x : Nat) : List Nat := if x = S.length then S ++ [1] else S.set x (S.getD x 0 + 1)
def szL (xs : List Int) : List Nat := xs.foldl (fun S x => szS S x.toNat) []
theorem szL_snoc (xs : List Int) (x : Int) : szL (xs ++ [x]) = szS (szL xs) x.toNat := by simp [szL]
theorem getD_end (S : List Nat) (x : Nat) : (S ++ [x]).getD S.length 0 = x := by simp [List.getD]
theorem set_end (S : List Nat) (x y : Nat) : (S ++ [x]).set S.length y = S ++ [y] := by simp
theorem getD_le {S : List Nat} {m : Nat} (h : ∀ u, u ∈ S → u ≤ m) (j : Nat) : S.getD j 0 ≤ m := by
 by_cases e : j < S.length
 ·exact h _ (by simp [List.getD, List.getElem?_eq_getElem e])
 ·simp [List.getD, List.getElem?_eq_none (Nat.le_of_not_lt e)]
theorem szS_le {S : List Nat} {m : Nat} (h : ∀ u, u ∈ S → u ≤ m) (x : Nat) : ∀ u, u ∈ szS S x → u ≤ m + 1 := by
 intro u hu
 unfold szS at hu
 split at hu
 ·rcases List.mem_append.1 hu with h1 | h1
  ·have := h u h1; omega
  ·rw [List.mem_singleton] at h1; omega
 ·rcases List.mem_or_eq_of_mem_set hu with h1 | h1
  ·have := h u h1; omega
  ·have := getD_le h x; omega
theorem szL_le (xs : List Int) : ∀ j, (szL xs).getD j 0 ≤ xs.length := by
 have : ∀ (xs : List Int) (S : List Nat) (m : Nat), (∀ u, u ∈ S → u ≤ m) → ∀ u, u ∈ (xs.foldl (fun S x => szS S x.toNat) S) → u ≤ m + xs.length := by
  intro xs
  induction xs with
  | nil => intro S m h u hu; exact h u hu
  | cons x r ih =>
    intro S m h u hu
    have h2 := ih (szS S x.toNat) (m + 1) (szS_le h _) u hu
    rw [List.length_cons]
    omega
 refine getD_le (fun u hu => ?_)
 have h := this xs [] 0 (fun u hu => by cases hu) u hu
 omega
def szE (N : Int) (xs : List Int) : Int := if (xs.length : Int) ≠ N ∨ tdy xs 0 = false then 80 else 0
theorem own_setI {w : World} {B g c : Nat} {L : List Nat} (h : w.ownsRow B 3 1 (.slice (some ⟨g, 0, none⟩) L.length c) L.length (cellsI (ints L))) (k x : Nat) : (w.setCell ⟨g, k, none⟩ (.int .i64 x)).ownsRow B 3 1 (.slice (some ⟨g, 0, none⟩) (L.set k x).length c) (L.set k x).length (cellsI (ints (L.set k x))) := by
 have h1 := (World.ownsRow.stored h k (.int .i64 x)).1
 have e : (cellsI (ints L)).set k (.int .i64 x) = cellsI (ints (L.set k x)) := by
  unfold cellsI ints
  rw [List.map_map, List.map_map, List.map_set]
  rfl
 rw [e] at h1
 rw [List.length_set]
 exact h1
theorem own_cellI {w : World} {B g c : Nat} {L : List Nat} (h : w.ownsRow B 3 1 (.slice (some ⟨g, 0, none⟩) L.length c) L.length (cellsI (ints L))) {k : Nat} (hk : k < L.length) : w.cell? ⟨g, k, none⟩ = some (.int .i64 ((L.getD k 0 : Nat) : Int)) := by
 rw [World.ownsRow.cellAt h k (by omega), cellsI_getD (ints L) k (by rw [ints_len]; exact hk), ints_getD hk]
set_option maxHeartbeats 1600000 in
theorem sizesOf_any (N : Int) (s : Value) (b : Option Addr) (xs : List Int) (bc : Nat) (w : World) (hN : N ≤ 1024) (hx : xs.length ≤ 9223372036854775807) (hi : Ints w b xs) :
  Calls Tryz.prog 221 #[.agg #[.int .i64 N, s], .slice b xs.length bc] w fun e w' => ∃ v c S, e = .returned (.tuple #[.slice v S.length c, .int .i64 (szE N xs)]) ∧ w'.ownsRow w.heap.size 3 1 (.slice v S.length c) S.length (cellsI (ints S)) ∧ S = (if szE N xs = 0 then szL xs else []) ∧ Below w.heap.size w w' := by
 have hb0 : Below w.heap.size w (w.alloc (.cells #[.int .i64 N, s] 24)) := (Below.refl _ _).alloc (Nat.le_refl _) _
 have hg := heap_top w (.cells #[.int .i64 N, s] 24)
 obtain ⟨i3, hi3, hz3, hs3, hby3⟩ := info_parts info3
 obtain ⟨E, HE⟩ := named (szE N xs)
 rw [HE.out]
 obtain ⟨⟨c0, c1⟩, _⟩ := two_cells hg
 have HI := hid (hi.on hb0)
 have HB0 := hid hb0
 clear hi hb0
 generalize hp : w.heap.size = p at *
 by_cases hxn : ¬ (xs.length : Int) = N
 ·have e1 : ((xs.length : Int) != N) = true := by simpa using hxn
  obtain rfl : E = 80 := by rw [← HE.out]; unfold szE; rw [if_pos (.inl hxn)]
  clear hxn
  go_enter Tryz.func221, Tryz.ntmps221
  go_wp2_with fail
  go_ret2
  exact ⟨none, 0, [], rfl, World.ownsRow_nil _ _ _ _, rfl, HB0.out⟩
 have hxn : (xs.length : Int) = N := by simpa using hxn
 subst hxn
 have e1 : ((xs.length : Int) != (xs.length : Int)) = false := by simp
 have hxl : xs.length ≤ 1024 := by omega
 have HEV : Hid (E = if tdy xs 0 = false then 80 else 0) := by
  show _ = _
  rw [← HE.out]
  unfold szE
  by_cases h : tdy xs 0 = false
  ·rw [if_pos (.inr h), if_pos h]
  ·rw [if_neg (by rintro (h1 | h1); exact h1 rfl; exact h h1), if_neg h]
 obtain ⟨V, HV⟩ := named (tdy xs 0)
 rw [HV.out] at HEV
 go_enter Tryz.func221, Tryz.ntmps221
 go_wp2_with fail
 have hWs : (w.alloc (.cells #[.int .i64 xs.length, s] 24)).heap.size = p + 1 := by simp [hp]
 generalize hW : w.alloc (.cells #[.int .i64 xs.length, s] 24) = W at *
 clear hW c0 c1
 have hpz : p < W.heap.size := lt_of_block hg
 obtain ⟨ix, ox, hix⟩ := HI.out.get
 have HIX := hid hix
 clear hix hg
 go_loopw [6, 16] (fun s6 i wr => ∃ (k : Nat) (av : Option Addr) (cv : Nat) (S : List Nat), k ≤ xs.length ∧ i = .int .i64 k ∧ s6 = .slice av S.length cv ∧ S.length ≤ k ∧ Hid (szL (xs.take k) = S) ∧ Hid (tdy (xs.drop k) S.length = V) ∧ Hid (wr.ownsRow (p + 1) 3 1 (.slice av S.length cv) S.length (cellsI (ints S))) ∧ Hid (Below (p + 1) W wr)) (fun _ i _ => xs.length - (intOf i).toNat)
 case atStart => exact ⟨0, none, 0, [], Nat.zero_le _, rfl, rfl, Nat.zero_le _, rfl, HV, World.ownsRow_nil _ _ _ _, Below.refl _ _⟩
 case round =>
  obtain ⟨k, av, cv, S, hk, rfl, rfl, hSk, HS, HK, HOW, HBR⟩ := hrel
  have hwr : W.heap.size ≤ wr.heap.size := HBR.out.size
  have HBP : Hid (Below p w wr) := HB0.out.trans (HBR.out.mono (by omega))
  by_cases hlk : k < xs.length
  ·obtain ⟨rfl, hbl, hat⟩ := HIX.out (by omega)
   have hlk' : (k : Int) < xs.length := by omega
   have y0 := (HBR.out.cell (p := ⟨ix, ox + k, none⟩) (hWs ▸ hbl)).trans (hat k hlk)
   have hk2 := HK.out
   rw [drop_getI hlk] at hk2
   simp only [tdy] at hk2
   have HK2 := hid hk2
   have HSN : Hid (szL (xs.take (k + 1)) = szS S (xs.getD k 0).toNat) := by show _ = _; rw [take_snocI hlk, szL_snoc, HS.out]
   clear hat hk2
   generalize xs.getD k 0 = x at *
   by_cases h0 : x < 0
   ·obtain rfl : E = 80 := by
     have h1 := HK2.out
     rw [if_pos (.inl h0)] at h1
     rw [HEV.out, if_pos h1.symm]
    go_wp2_with fail
    go_ret2
    exact ⟨none, 0, [], rfl, World.ownsRow_nil _ _ _ _, rfl, HBP.out⟩
   ·by_cases h1 : (S.length : Int) < x
    ·obtain rfl : E = 80 := by
      have h2 := HK2.out
      rw [if_pos (.inr h1)] at h2
      rw [HEV.out, if_pos h2.symm]
     go_wp2_with fail
     go_ret2
     exact ⟨none, 0, [], rfl, World.ownsRow_nil _ _ _ _, rfl, HBP.out⟩
    ·rw [if_neg (by omega)] at HK2
     obtain ⟨y, hy⟩ : ∃ y : Nat, x = y := ⟨x.toNat, by omega⟩
     subst hy
     rw [Int.toNat_natCast] at HSN
     by_cases h2 : y = S.length
     ·subst h2
      have hq : ((S.length : Int) == (S.length : Int)) = true := by simp
      have HNS : Hid (szS S S.length = S ++ [1]) := if_pos rfl
      rw [HNS.out] at HSN
      rw [if_pos rfl] at HK2
      have HK3 : Hid (tdy (xs.drop (k + 1)) (((S ++ [1]).length : Nat) : Int) = V) := by
       have h3 := HK2.out
       rw [show ((S.length : Int) + 1) = (((S ++ [1]).length : Nat) : Int) by rw [List.length_append]; rfl] at h3
       exact h3
      have HNW := hid (one_new wr 0)
      have HO2 := hid (HOW.out.alloc (.cells #[.int .i64 0] 3))
      have HBZ : Hid (p + 1 ≤ (wr.alloc (.cells #[.int .i64 0] 3)).heap.size) := by show _ ≤ _; rw [World.size_alloc]; omega
      have HBB : Hid (Below (p + 1) W (wr.alloc (.cells #[.int .i64 0] 3))) := HBR.out.alloc (by omega) _
      have HOL : Hid (∀ b, (Value.slice av S.length cv).ownBlock = some b → p + 1 ≤ b) := fun b hb => (HOW.out.lt b hb).1
      have HCA : Hid (cellsI (ints S) ++ [.int .i64 0] = cellsI (ints (S ++ [0]))) := by show _ = _; rw [ints_snoc, ← cellsI_snoc]; rfl
      have hs8 : S.length ≤ 1024 := by omega
      go_wp2_with (at_builtin; refine wpList_append_own _ rfl (.tmp 32) (.tmp 33) 25 rfl (p + 1) 3 i3 (.int .i64 0) 1 8 Tryz.underlying25 hi3 hz3 hs3 hby3 rfl (by decide) (.slice av S.length cv) S.length (cellsI (ints S)) rfl HO2.out ⟨wr.heap.size, 0, none⟩ 1 1 [.int .i64 0] rfl rfl HNW.out (one_i64 _) (by unfold maxLen; omega) (by omega) HBZ.out ?_; intro v6 w6 hown6 hgrow6 hnil6; obtain ⟨g6, c6, hv6, _, hc6, _, hm6⟩ := own_shape hown6 (fun e => by have := hnil6.1 e; simp at this); subst hv6; rw [HCA.out] at hown6; have h7 : w6.ownsRow (p + 1) 3 1 (.slice (some ⟨g6, 0, none⟩) (S ++ [0]).length c6) (S ++ [0]).length (cellsI (ints (S ++ [0]))) := (by rw [List.length_append]; exact hown6); have d1 := own_cellI h7 (k := S.length) (by rw [List.length_append]; simp); have d2 := World.ownsRow.frozenAt h7 S.length; rw [getD_end S 0] at d1; have HO7 := hid (own_setI h7 S.length 1); have HB6 : Hid (Below (p + 1) W w6) := HBB.out.grown hgrow6 HBZ.out (fun j hj => HOL.out j hj); have hg6 : p + 1 ≤ g6 := (h7.lt g6 rfl).1; have hc6' : ((S.length : Int) + 1) ≤ c6 := (by omega); clear hown6 hgrow6 hnil6 h7)
      rw [set_end S 0 1] at HO7
      refine ⟨⟨k + 1, some ⟨g6, 0, none⟩, c6, S ++ [1], by omega, by simp, by rw [List.length_append]; rfl, by rw [List.length_append]; simp; omega, HSN, HK3, HO7, hid (HB6.out.setCell hg6 _)⟩, by simp [intOf]; omega⟩
     ·have hq : ((y : Int) == (S.length : Int)) = false := by simp; omega
      have hy : y < S.length := by omega
      have hy' : (y : Int) < S.length := by omega
      have HNS : Hid (szS S y = S.set y (S.getD y 0 + 1)) := if_neg h2
      rw [HNS.out] at HSN
      rw [if_neg (by omega)] at HK2
      have HK3 : Hid (tdy (xs.drop (k + 1)) (((S.set y (S.getD y 0 + 1)).length : Nat) : Int) = V) := by rw [List.length_set]; exact HK2
      obtain ⟨g, cg, hv, hg1, _, _, _⟩ := own_shape HOW.out (fun e => by injection e with _ e2 _; omega)
      injection hv with hv1 _ hv3
      subst hv1 hv3
      have d1 := own_cellI HOW.out hy
      have d2 := World.ownsRow.frozenAt HOW.out y
      have HO7 := hid (own_setI HOW.out y (S.getD y 0 + 1))
      have hsz : (((S.getD y 0 : Nat) : Int) + 1) ≤ 1000000 := by
       have h3 := szL_le (xs.take k) y
       rw [HS.out, List.length_take] at h3
       omega
      generalize S.getD y 0 = sy at *
      clear h2
      go_wp2_with fail
      refine ⟨⟨k + 1, some ⟨g, 0, none⟩, cv, S.set y (sy + 1), by omega, by simp, by rw [List.length_set], by rw [List.length_set]; omega, HSN, HK3, ?_, hid (HBR.out.setCell hg1 _)⟩, by simp [intOf]; omega⟩
      exact HO7
  ·have e0 : xs.drop k = [] := List.drop_eq_nil_of_le (by omega)
   have e2 : xs.take k = xs := List.take_of_length_le (by omega)
   have hlk' : ¬ (k : Int) < xs.length := by omega
   rw [e0] at HK
   rw [e2] at HS
   obtain rfl : E = 0 := by
    have h3 : V = true := HK.out.symm
    rw [HEV.out, h3]; rfl
   clear e0 e2
   go_wp2_with fail
   go_ret2
   exact ⟨av, cv, S, rfl, own_base HOW.out (by omega), HS.out.symm, HBP.out⟩
def siE (N : Int) (l : List A) (xs : List Int) : Int := if chkE N l ≠ 0 then chkE N l else szE N xs
set_option maxHeartbeats 1600000 in
theorem sizes_any (N : Int) (a : Option Addr) (l : List A) (cap : Nat) (b : Option Addr) (xs : List Int) (bc : Nat) (w : World) (hl : l.length ≤ 9223372036854775807) (hx : xs.length ≤ 9223372036854775807) (hr : Arcs w a l) (hi : Ints w b xs) :
  Calls Tryz.prog 198 #[.agg #[.int .i64 N, .slice a l.length cap], .slice b xs.length bc] w fun e w' => ∃ v c S, e = .returned (.tuple #[.slice v S.length c, .int .i64 (siE N l xs)]) ∧ w'.ownsRow w.heap.size 3 1 (.slice v S.length c) S.length (cellsI (ints S)) ∧ S = (if siE N l xs = 0 then szL xs else []) ∧ Below w.heap.size w w' := by
 have hb0 : Below w.heap.size w (w.alloc (.cells #[.int .i64 N, .slice a l.length cap] 24)) := (Below.refl _ _).alloc (Nat.le_refl _) _
 have hg := heap_top w (.cells #[.int .i64 N, .slice a l.length cap] 24)
 have HR := hid (hr.on hb0)
 have HI := hid (hi.on hb0)
 have hwz : w.heap.size ≤ (w.alloc (.cells #[.int .i64 N, .slice a l.length cap] 24)).heap.size := hb0.size
 have HB0 := hid hb0
 obtain ⟨AT, HAT⟩ := named (chkAt N l)
 obtain ⟨E, HE⟩ := named (chkE N l)
 obtain ⟨R, HRR⟩ := named (if siE N l xs = 0 then szL xs else [])
 rw [HRR.out]
 obtain ⟨G, HG⟩ := named (siE N l xs)
 rw [HG.out] at HRR ⊢
 clear hb0 hr hi
 generalize hp : w.heap.size = p at *
 go_enter Tryz.func198, Tryz.ntmps198
 go_wp2_with fail
 generalize hW : w.alloc (.cells #[.int .i64 N, .slice a l.length cap] 24) = W at *
 clear hW
 have hpz : p < W.heap.size := lt_of_block hg
 refine (check_any N a l cap W hl HR.out).mono ?_
 rintro e w1 ⟨rfl, hb1⟩
 have HB1 : Hid (Below p w w1) := HB0.out.trans (hb1.mono hwz)
 have hg1 := (hb1.block p hpz).trans hg
 obtain ⟨⟨c0, c1'⟩, _⟩ := two_cells hg1
 have HI1 := hid (HI.out.on hb1)
 have hz1 : p < w1.heap.size := lt_of_block hg1
 rw [HE.out, HAT.out]
 clear hb1 HR hg hwz HI
 by_cases hE : E ≠ 0
 ·have e1 : (E != 0) = true := by simpa using hE
  obtain rfl : G = E := by rw [← HG.out]; unfold siE; rw [if_pos (by rw [HE.out]; exact hE), HE.out]
  obtain rfl : R = [] := by rw [← HRR.out, if_neg hE]
  go_wp2_with fail
  go_ret2
  exact ⟨none, 0, [], rfl, World.ownsRow_nil _ _ _ _, rfl, HB1.out⟩
 obtain rfl : E = 0 := by omega
 clear hE
 have HGZ : Hid (szE N xs = G) := by show _ = _; rw [← HG.out]; unfold siE; rw [if_neg (by rw [HE.out]; omega)]
 have HSZ := hid (sizesOf_any N (.slice a l.length cap) b xs bc w1 (by have := (chk_zero HE.out).2.1; omega) hx HI1.out)
 rw [HGZ.out, HRR.out] at HSZ
 go_wp2_with fail
 refine HSZ.out.mono ?_
 rintro e w2 ⟨v2, c2, S, rfl, hown2, hS, hb2⟩
 have HB2 : Hid (Below p w w2) := HB1.out.trans (hb2.mono (by omega))
 have HO2 := hid (own_base hown2 (Nat.le_of_lt hz1))
 have HS := hid hS
 clear hb2 hown2 hS
 go_wp2_with fail
 go_ret2
 exact ⟨v2, c2, S, rfl, HO2.out, HS.out, HB2.out⟩
theorem nsOf_any (a : Option Addr) (xs : List Int) (c : Nat) (s : Value) (v : Nat) (w : World) (hv : v < xs.length) (hx : xs.length ≤ 9223372036854775807) (hi : Ints w a xs) :
  Calls Tryz.prog 93 #[.agg #[.slice a xs.length c, s], .int .i64 v] w fun e w' => e = .returned (.int .i64 (xs.getD v 0)) ∧ Below w.heap.size w w' := by
 have hb0 : Below w.heap.size w (w.alloc (.cells #[.slice a xs.length c, s] 143)) := (Below.refl _ _).alloc (Nat.le_refl _) _
 have hg := heap_top w (.cells #[.slice a xs.length c, s] 143)
 obtain ⟨ix, ox, hix⟩ := (hi.on hb0).get
 obtain ⟨rfl, _, hat⟩ := hix (by omega)
 have d1 := hat v hv
 obtain ⟨⟨c0, c1⟩, _⟩ := two_cells hg
 have HB0 := hid hb0
 have hv' : (v : Int) < xs.length := by omega
 generalize xs.getD v 0 = y at *
 clear hix hat hi hg hb0
 generalize hp : w.heap.size = p at *
 go_enter Tryz.func93, Tryz.ntmps93
 go_wp2_with fail
 go_ret
 exact ⟨rfl, HB0.out⟩
theorem nsMany_any (s : Value) (b : Option Addr) (m c : Nat) (w : World) :
  Calls Tryz.prog 153 #[.agg #[s, .slice b m c]] w fun e w' => e = .returned (.int .i64 (m : Int)) ∧ Below w.heap.size w w' := by
 have hb0 : Below w.heap.size w (w.alloc (.cells #[s, .slice b m c] 143)) := (Below.refl _ _).alloc (Nat.le_refl _) _
 have hg := heap_top w (.cells #[s, .slice b m c] 143)
 obtain ⟨⟨c0, c1⟩, _⟩ := two_cells hg
 have HB0 := hid hb0
 clear hg hb0
 generalize hp : w.heap.size = p at *
 go_enter Tryz.func153, Tryz.ntmps153
 go_wp2_with fail
 go_ret
 exact ⟨rfl, HB0.out⟩
theorem nsSome_any (b : Option Addr) (m c : Nat) (w : World) (hm : m ≤ 9223372036854775807) :
  Calls Tryz.prog 150 #[.slice b m c] w fun e w' => e = .returned (.bool (decide (1 ≤ m ∧ m ≤ 5))) ∧ w' = w := by
 by_cases h1 : (1 : Int) ≤ m
 ·by_cases h2 : (m : Int) ≤ 5
  ·rw [decide_eq_true (by omega)]
   go_enter Tryz.func150, Tryz.ntmps150
   go_wp2_with fail
   go_ret
   exact ⟨rfl, rfl⟩
  ·rw [decide_eq_false (by omega)]
   go_enter Tryz.func150, Tryz.ntmps150
   go_wp2_with fail
   go_ret
   exact ⟨rfl, rfl⟩
 ·rw [decide_eq_false (by omega)]
  go_enter Tryz.func150, Tryz.ntmps150
  go_wp2_with fail
  go_ret
  exact ⟨rfl, rfl⟩
theorem nsBound_any (x y : Int) (w : World) :
  Calls Tryz.prog 197 #[.int .i64 x, .int .i64 y] w fun e w' => e = .returned (.bool (decide (y < x ∧ x ≤ 1024))) ∧ w' = w := by
 by_cases h1 : y < x
 ·by_cases h2 : x ≤ 1024
  ·rw [decide_eq_true (by omega)]
   go_enter Tryz.func197, Tryz.ntmps197
   go_wp2_with fail
   go_ret
   exact ⟨rfl, rfl⟩
  ·rw [decide_eq_false (by omega)]
   go_enter Tryz.func197, Tryz.ntmps197
   go_wp2_with fail
   go_ret
   exact ⟨rfl, rfl⟩
 ·rw [decide_eq_false (by omega)]
  go_enter Tryz.func197, Tryz.ntmps197
  go_wp2_with fail
  go_ret
  exact ⟨rfl, rfl⟩
theorem nsHas_any (s : Value) (b : Option Addr) (m c : Nat) (x : Int) (w : World) :
  Calls Tryz.prog 159 #[.agg #[s, .slice b m c], .int .i64 x] w fun e w' => e = .returned (.bool (decide (0 ≤ x ∧ x < (m : Int)))) ∧ Below w.heap.size w w' := by
 have hb0 : Below w.heap.size w (w.alloc (.cells #[s, .slice b m c] 143)) := (Below.refl _ _).alloc (Nat.le_refl _) _
 have hg := heap_top w (.cells #[s, .slice b m c] 143)
 obtain ⟨⟨c0, c1⟩, _⟩ := two_cells hg
 have HB0 := hid hb0
 have hwz := hb0.size
 have HMA := hid (nsMany_any s b m c (w.alloc (.cells #[s, .slice b m c] 143)))
 clear hg hb0
 by_cases h1 : 0 ≤ x
 ·by_cases h2 : x < (m : Int)
  ·rw [decide_eq_true ⟨h1, h2⟩]
   generalize hp : w.heap.size = p at *
   go_enter Tryz.func159, Tryz.ntmps159
   go_wp2_with fail
   refine HMA.out.mono ?_
   rintro e w1 ⟨rfl, hb1⟩
   have HB1 : Hid (Below p w w1) := HB0.out.trans (hb1.mono hwz)
   clear hb1
   go_wp2_with fail
   go_ret
   exact ⟨rfl, HB1.out⟩
  ·rw [decide_eq_false (by omega)]
   have f2 : decide (x < (m : Int)) = false := decide_eq_false h2
   generalize hp : w.heap.size = p at *
   go_enter Tryz.func159, Tryz.ntmps159
   go_wp2_with fail
   refine HMA.out.mono ?_
   rintro e w1 ⟨rfl, hb1⟩
   have HB1 : Hid (Below p w w1) := HB0.out.trans (hb1.mono hwz)
   clear hb1
   go_wp2_with fail
   go_ret
   exact ⟨rfl, HB1.out⟩
 ·rw [decide_eq_false (by omega)]
  generalize hp : w.heap.size = p at *
  go_enter Tryz.func159, Tryz.ntmps159
  go_wp2_with fail
  go_ret
  exact ⟨rfl, HB0.out⟩
def wdB (S : List Nat) (bd : Int) : Bool := decide (∀ j, j < S.length → ((S.getD j 0 : Nat) : Int) ≤ bd)
set_option maxHeartbeats 800000 in
theorem nsWithin_any (s : Value) (b : Option Addr) (S : List Nat) (c : Nat) (bd : Int) (w : World) (hS : S.length ≤ 1024) (hi : Ints w b (ints S)) :
  Calls Tryz.prog 199 #[.agg #[s, .slice b S.length c], .int .i64 bd] w fun e w' => e = .returned (.bool (wdB S bd)) ∧ Below w.heap.size w w' := by
 have hb0 : Below w.heap.size w (w.alloc (.cells #[s, .slice b S.length c] 143)) := (Below.refl _ _).alloc (Nat.le_refl _) _
 have hg := heap_top w (.cells #[s, .slice b S.length c] 143)
 obtain ⟨⟨c0, c1⟩, _⟩ := two_cells hg
 have HB0 := hid hb0
 obtain ⟨ix, ox, hix⟩ := (hi.on hb0).get
 have HIX := hid hix
 obtain ⟨V, HV⟩ := named (wdB S bd)
 rw [HV.out]
 clear hg hb0 hi hix
 generalize hp : w.heap.size = p at *
 go_enter Tryz.func199, Tryz.ntmps199
 go_wp2_with fail
 generalize hW : w.alloc (.cells #[s, .slice b S.length c] 143) = W at *
 clear hW c0 c1
 go_loopw [10] (fun i wr => ∃ j : Nat, j ≤ S.length ∧ i = .int .i64 (j : Int) ∧ Hid (∀ t, t < j → ((S.getD t 0 : Nat) : Int) ≤ bd) ∧ wr = W) (fun i _ => S.length - (intOf i).toNat)
 case atStart => exact ⟨0, Nat.zero_le _, rfl, fun t ht => absurd ht (Nat.not_lt_zero _), rfl⟩
 case round =>
  obtain ⟨j, hj, rfl, HA, rfl⟩ := hrel
  by_cases hlk : j < S.length
  ·have hlk' : (j : Int) < S.length := by omega
   obtain ⟨rfl, _, hat⟩ := HIX.out (by rw [ints_len]; omega)
   have d1 := hat j (by rw [ints_len]; exact hlk)
   rw [ints_getD hlk] at d1
   clear hat
   obtain ⟨y, HY⟩ := named (S.getD j 0)
   rw [HY.out] at d1
   by_cases c : bd < (y : Int)
   ·obtain rfl : V = false := by
     rw [← HV.out]
     unfold wdB
     refine decide_eq_false (fun h => ?_)
     have := h j hlk
     rw [HY.out] at this
     omega
    go_wp2_with fail
    refine bodyPost_ret (results_tmp rfl _ _ _) rfl ?_
    exact ⟨rfl, HB0.out⟩
   ·have HA2 : Hid (∀ t, t < j + 1 → ((S.getD t 0 : Nat) : Int) ≤ bd) := fun t ht => by
     by_cases e : t = j
     ·rw [e, HY.out]; omega
     ·exact HA.out t (by omega)
    go_wp2_with fail
    exact ⟨⟨j + 1, hlk, by simp, HA2, trivial⟩, by simp [intOf]; omega⟩
  ·have hlk' : ¬ (j : Int) < S.length := by omega
   obtain rfl : V = true := by
    rw [← HV.out]
    exact decide_eq_true (fun t ht => HA.out t (by omega))
   go_wp2_with fail
   refine bodyPost_ret (results_tmp rfl _ _ _) rfl ?_
   exact ⟨rfl, HB0.out⟩
end Go.Proofs.YtaafkpojjdjphaaGreat
