/-
  append: the new row lies where the old one lay, or in a block that is new. Arcs and graphs as they lie in memory; contracts of graph.isVertex and graph.Check. Tables, rows and chains of arcs' ends: what the walks of grow use. Lists of numbers; the contract of the book's SameInts, at the same ones: true. Pairs as they lie in memory; the contracts of cmp.Compare, cmp.Or, natcut.inOrder. Contracts of grow.check, grow.isVertex and around.
-/
import Derived.Test.YtgpaoiddjlpcmaaChecked
import Derived.WalkKit
import Derived.WalkMore
import Derived.BigCall
import Derived.Below
import Derived.Lib.Hide
import Derived.Laws.AppendOwn
import Derived.Laws.OwnMore
import Derived.Deep.QuietTactic
import Derived.BigQuiet
import Derived.Laws.MakeOwn
import Derived.BigRegion
import Derived.Deep.LoopGhost
import Derived.Deep.RegionHeld3
import Derived.Sort.Grow
namespace Go.Proofs.Ytgpaoiddjlpcmaa
open Go.RowKit
/-- An arc. -/
structure A where
  f : Int
  t : Int
  w : Int
deriving DecidableEq
instance : Inhabited A := ⟨⟨0, 0, 0⟩⟩
def A.zero : A := ⟨0, 0, 0⟩
/-- Its three cells lie at an address. -/
def A.at (x : A) (w : World) (b o : Nat) : Prop :=
  w.cell? ⟨b, o, none⟩ = some (.int .i64 x.f) ∧ w.cell? ⟨b, o + 1, none⟩ = some (.int .i64 x.t) ∧ w.cell? ⟨b, o + 2, none⟩ = some (.int .u32 x.w)
/-- The arcs of a slice lie so in memory. -/
def Arcs (w : World) (a : Option Addr) (l : List A) : Prop :=
  l = [] ∨ ∃ b o, a = some ⟨b, o, none⟩ ∧ b < w.heap.size ∧ ∀ j, j < l.length → (l.getD j A.zero).at w b (o + j * 3)
theorem A.at.on {x : A} {w w' : World} {b o : Nat} (h : x.at w b o) (hb : Below w.heap.size w w') : x.at w' b o := by
  have hl := World.block_lt_of_cell? w _ h.1
  exact ⟨(hb.cell hl).trans h.1, (hb.cell (p := ⟨b, o + 1, none⟩) hl).trans h.2.1, (hb.cell (p := ⟨b, o + 2, none⟩) hl).trans h.2.2⟩
theorem Arcs.on {w w' : World} {a : Option Addr} {l : List A} (h : Arcs w a l) (hb : Below w.heap.size w w') : Arcs w' a l := by
  rcases h with h | ⟨b, o, rfl, hl, hc⟩
  · exact Or.inl h
  · exact Or.inr ⟨b, o, rfl, Nat.lt_of_lt_of_le hl hb.size, fun j hj => (hc j hj).on hb⟩
/-- A vertex of a graph of N. -/
def okV (N v : Int) : Bool := decide (0 ≤ v ∧ v < N)
theorem okV_t {N v : Int} (h : okV N v = true) : 0 ≤ v ∧ v < N := by simpa [okV] using h
def okA (N : Int) (x : A) : Bool := okV N x.f && okV N x.t
theorem okA_t {N : Int} {x : A} (h : okA N x = true) : okV N x.f = true ∧ okV N x.t = true := by simpa [okA] using h
/-- What Check tells. -/
def chkE (N : Int) (l : List A) : Int := if N < 1 ∨ 1024 < N then 1 else if 8192 < l.length then 2 else if l.all (okA N) then 0 else 30
def chkAt (N : Int) (l : List A) : Int := if N < 1 ∨ 1024 < N then 0 else if 8192 < l.length then 0 else if l.all (okA N) then 0 else (l.findIdx (fun x => !okA N x) : Nat)
theorem ret_bool {a b : Bool} (h : a = b) : Ending.returned (.bool a) = .returned (.bool b) := by rw [h]
set_option maxHeartbeats 400000 in
theorem vert_any (N v : Int) (a : Option Addr) (n cap : Nat) (w : World) :
    Calls Try.prog 50 #[.agg #[.int .i64 N, .slice a n cap], .int .i64 v] w fun e w' => e = .returned (.bool (okV N v)) ∧ Below w.heap.size w w' := by
  by_cases h1 : 0 ≤ v
  · by_cases h2 : v < N
    · rw [show okV N v = true by simp [okV, h1, h2]]
      go_enter Try.func50, Try.ntmps50
      go_wp2_with fail
      go_ret
      exact ⟨rfl, (Below.refl _ _).alloc (Nat.le_refl _) _⟩
    · rw [show okV N v = false by simp [okV, h2]]
      go_enter Try.func50, Try.ntmps50
      go_wp2_with fail
      go_ret
      exact ⟨rfl, (Below.refl _ _).alloc (Nat.le_refl _) _⟩
  · rw [show okV N v = false by simp [okV, h1]]
    go_enter Try.func50, Try.ntmps50
    go_wp2_with fail
    go_ret
    exact ⟨rfl, (Below.refl _ _).alloc (Nat.le_refl _) _⟩
theorem all_take {l : List A} {p : A → Bool} {k : Nat} (hk : k < l.length) (h : (l.take k).all p = true) (hp : p (l.getD k A.zero) = true) : (l.take (k + 1)).all p = true := by
  rw [List.take_succ_eq_append_getElem hk, List.all_append, h]
  have e : l.getD k A.zero = l[k] := by simp [List.getD, List.getElem?_eq_getElem hk]
  rw [e] at hp
  simp [hp]
theorem find_at {l : List A} {p : A → Bool} {k : Nat} (hk : k < l.length) (h : (l.take k).all p = true) (hp : p (l.getD k A.zero) = false) : l.all p = false ∧ l.findIdx (fun x => !p x) = k := by
  have e : l.getD k A.zero = l[k] := by simp [List.getD, List.getElem?_eq_getElem hk]
  rw [e] at hp
  constructor
  · rw [List.all_eq_false]
    exact ⟨l[k], List.getElem_mem hk, by simp [hp]⟩
  · rw [List.findIdx_eq hk]
    refine ⟨by simp [hp], fun j hj => ?_⟩
    have h2 := List.all_eq_true.1 h (l[j]) (by rw [List.mem_take_iff_getElem]; exact ⟨j, by omega, rfl⟩)
    simp [h2]
theorem heap_top (w : World) (o : Obj) : (w.alloc o).heap[w.heap.size]? = some o := by show (w.heap.push o)[w.heap.size]? = _; simp
/-- A block from before, and the newest one, behind a call. -/
theorem keep1 {w w2 : World} {o o' : Obj} {g : Nat} (hg : w.heap[g]? = some o') (hb : Below (w.alloc o).heap.size (w.alloc o) w2) : w2.heap[g]? = some o' ∧ w2.heap[w.heap.size]? = some o := by
  have hl := lt_of_block hg
  exact ⟨(hb.block g (by simp; omega)).trans ((Below.heap_alloc w o g hl).trans hg), (hb.block w.heap.size (by simp)).trans (heap_top w o)⟩
theorem bthen {B : Nat} {w w1 w2 : World} (h : Below B w w1) (k : Below w1.heap.size w1 w2) (hB : B ≤ w1.heap.size) : Below B w w2 := h.trans (k.mono hB)
theorem two_cells {w : World} {g : Nat} {a b : Value} {t : TypeId} (h : w.heap[g]? = some (.cells #[a, b] t)) : (w.cell? ⟨g, 0, none⟩ = some a ∧ w.cell? ⟨g, 1, none⟩ = some b) ∧ (w.frozen? ⟨g, 0, none⟩ = false ∧ w.frozen? ⟨g, 1, none⟩ = false) := by
  simp [World.cell?, World.frozen?, h]
theorem three_cells {w : World} {g : Nat} {a b c : Value} {t : TypeId} (h : w.heap[g]? = some (.cells #[a, b, c] t)) : w.cell? ⟨g, 0, none⟩ = some a ∧ w.cell? ⟨g, 1, none⟩ = some b ∧ w.cell? ⟨g, 2, none⟩ = some c := by
  simp [World.cell?, h]
theorem named {α : Sort _} (x : α) : ∃ y, Hid (x = y) := ⟨x, rfl⟩
theorem chk_range {N : Int} {l : List A} (h : N < 1 ∨ 1024 < N) : chkE N l = 1 ∧ chkAt N l = 0 := by
  unfold chkE chkAt; rw [if_pos h, if_pos h]; exact ⟨rfl, rfl⟩
theorem chk_long {N : Int} {l : List A} (h : ¬ (N < 1 ∨ 1024 < N)) (h3 : 8192 < l.length) : chkE N l = 2 ∧ chkAt N l = 0 := by
  unfold chkE chkAt; rw [if_neg h, if_neg h, if_pos h3, if_pos h3]; exact ⟨rfl, rfl⟩
theorem chk_ok {N : Int} {l : List A} (h : ¬ (N < 1 ∨ 1024 < N)) (h3 : ¬ 8192 < l.length) (h4 : l.all (okA N) = true) : chkE N l = 0 ∧ chkAt N l = 0 := by
  unfold chkE chkAt; rw [if_neg h, if_neg h, if_neg h3, if_neg h3, if_pos h4, if_pos h4]; exact ⟨rfl, rfl⟩
theorem chk_bad {N : Int} {l : List A} {k : Nat} (h : ¬ (N < 1 ∨ 1024 < N)) (h3 : ¬ 8192 < l.length) (h4 : l.all (okA N) = false ∧ l.findIdx (fun x => !okA N x) = k) : chkE N l = 30 ∧ chkAt N l = k := by
  unfold chkE chkAt; rw [if_neg h, if_neg h, if_neg h3, if_neg h3, h4.1, h4.2]; exact ⟨rfl, rfl⟩
/-- What a graph that Check lets by is like. -/
theorem chk_zero {N : Int} {l : List A} (h : chkE N l = 0) : 1 ≤ N ∧ N ≤ 1024 ∧ l.length ≤ 8192 ∧ ∀ x ∈ l, (0 ≤ x.f ∧ x.f < N) ∧ (0 ≤ x.t ∧ x.t < N) := by
  unfold chkE at h
  split at h
  · cases h
  split at h
  · cases h
  split at h
  · rename_i h1 h2 h3
    refine ⟨by omega, by omega, by omega, fun x hx => ?_⟩
    obtain ⟨h5, h6⟩ := okA_t (List.all_eq_true.1 h3 x hx)
    exact ⟨okV_t h5, okV_t h6⟩
  · cases h
set_option maxHeartbeats 800000 in
theorem check_any (N : Int) (a : Option Addr) (l : List A) (cap : Nat) (w : World) (hl : l.length ≤ 9223372036854775807) (hr : Arcs w a l) :
    Calls Try.prog 38 #[.agg #[.int .i64 N, .slice a l.length cap]] w fun e w' => e = .returned (.tuple #[.int .i64 (chkAt N l), .int .i64 (chkE N l)]) ∧ Below w.heap.size w w' := by
  by_cases h1 : N < 1
  · rw [(chk_range (l := l) (Or.inl h1)).1, (chk_range (l := l) (Or.inl h1)).2]
    go_enter Try.func38, Try.ntmps38
    go_wp2_with fail
    go_ret2
    exact ⟨rfl, (Below.refl _ _).alloc (Nat.le_refl _) _⟩
  by_cases h2 : 1024 < N
  · rw [(chk_range (l := l) (Or.inr h2)).1, (chk_range (l := l) (Or.inr h2)).2]
    go_enter Try.func38, Try.ntmps38
    go_wp2_with fail
    go_ret2
    exact ⟨rfl, (Below.refl _ _).alloc (Nat.le_refl _) _⟩
  have hN : ¬ (N < 1 ∨ 1024 < N) := by omega
  by_cases h3 : 8192 < l.length
  · have h3' : (8192 : Int) < l.length := by omega
    rw [(chk_long hN h3).1, (chk_long hN h3).2]
    clear hN
    go_enter Try.func38, Try.ntmps38
    go_wp2_with fail
    go_ret2
    exact ⟨rfl, (Below.refl _ _).alloc (Nat.le_refl _) _⟩
  have h3' : ¬ (8192 : Int) < l.length := by omega
  have HN := Lib.hid hN
  clear hN
  obtain ⟨E, HE⟩ := named (chkE N l)
  obtain ⟨T, HAT⟩ := named (chkAt N l)
  rw [HE.out, HAT.out]
  have hb0 : Below w.heap.size w (w.alloc (.cells #[.int .i64 N, .slice a l.length cap] 24)) := (Below.refl _ _).alloc (Nat.le_refl _) _
  obtain ⟨b, o, hab⟩ : ∃ b o, 0 < l.length → a = some ⟨b, o, none⟩ ∧ b < w.heap.size ∧ ∀ j, j < l.length → (l.getD j A.zero).at w b (o + j * 3) := by
    rcases hr with rfl | ⟨b, o, h⟩
    · exact ⟨0, 0, fun h => absurd h (by simp)⟩
    · exact ⟨b, o, fun _ => h⟩
  go_enter Try.func38, Try.ntmps38
  go_wp2_with fail
  go_loopw [21] (fun i wr => ∃ k : Nat, k ≤ l.length ∧ i = .int .i64 k ∧ Hid ((l.take k).all (okA N) = true) ∧ wr.heap[w.heap.size]? = some (.cells #[.int .i64 N, .slice a l.length cap] 24) ∧ Below w.heap.size w wr) (fun i _ => l.length - (intOf i).toNat)
  case atStart => exact ⟨0, Nat.zero_le _, rfl, by show _ = _; simp, heap_top w _, hb0⟩
  case round =>
    obtain ⟨k, hk, rfl, hall, hg, hb⟩ := hrel
    obtain ⟨⟨g0, g1⟩, gf0, gf1⟩ := two_cells hg
    have hsz : w.heap.size < wr.heap.size := lt_of_block hg
    by_cases hlt : k < l.length
    · obtain ⟨rfl, hbl, hat⟩ := hab (by omega)
      obtain ⟨c0, c1, c2⟩ := (hat k hlt).on hb
      have HT := Lib.hid (fun (h : okA N (l.getD k A.zero) = true) => all_take hlt hall.out h)
      have HF := Lib.hid (fun (h : okA N (l.getD k A.zero) = false) => find_at hlt hall.out h)
      generalize l.getD k A.zero = x at *
      go_wp2_with fail
      refine (vert_any N x.f _ _ _ _).mono ?_
      rintro e w2 ⟨rfl, hb2⟩
      obtain ⟨hg2, hx2⟩ := keep1 hg hb2
      have s2 : wr.heap.size < w2.heap.size := lt_of_block hx2
      have b2 : Below w.heap.size w w2 := bthen (hb.alloc (by omega) _) hb2 (by simp; omega)
      clear hb2 hg g0 g1 gf0 gf1 c0 c1 c2 hb
      obtain ⟨⟨g0, g1⟩, gf0, gf1⟩ := two_cells hg2
      obtain ⟨c0, c1, c2⟩ := three_cells hx2
      by_cases h5 : okV N x.f = true
      · rw [h5]
        go_wp2_with fail
        refine (vert_any N x.t _ _ _ _).mono ?_
        rintro e w3 ⟨rfl, hb3⟩
        have hg3 := (hb3.block _ (lt_of_block hg2)).trans hg2
        have b3 : Below w.heap.size w w3 := bthen b2 hb3 (by omega)
        clear hb3 hg2 g0 g1 gf0 gf1 c0 c1 c2 b2 hx2
        by_cases h6 : okV N x.t = true
        · rw [h6]
          have hA : okA N x = true := by simp [okA, h5, h6]
          go_wp2_with fail
          exact ⟨⟨k + 1, by omega, by go_num, HT.out hA, hg3, b3⟩, by simp [intOf]; omega⟩
        · have h6' : okV N x.t = false := by simpa using h6
          rw [h6']
          have hE := chk_bad HN.out h3 (HF.out (by simp [okA, h6']))
          rw [HE.out, HAT.out] at hE
          obtain ⟨rfl, rfl⟩ := hE
          go_wp2_with fail
          go_ret2
          exact ⟨rfl, b3⟩
      · have h5' : okV N x.f = false := by simpa using h5
        rw [h5']
        have hE := chk_bad HN.out h3 (HF.out (by simp [okA, h5']))
        rw [HE.out, HAT.out] at hE
        obtain ⟨rfl, rfl⟩ := hE
        go_wp2_with fail
        go_ret2
        exact ⟨rfl, b2⟩
    · have hE := chk_ok HN.out h3 (by have := hall.out; rw [List.take_of_length_le (by omega)] at this; exact this)
      rw [HE.out, HAT.out] at hE
      obtain ⟨rfl, rfl⟩ := hE
      go_wp2_with fail
      go_ret2
      exact ⟨rfl, hb⟩
end Go.Proofs.Ytgpaoiddjlpcmaa
namespace Go.Proofs.Ytgpaoiddjlpcmaa
open Go.RowKit
theorem info3 : (Try.prog.info? 3).map (fun i => (i.zero, i.size, i.bytes)) = some (some (.int .i64 0), 1, 8) := by kernel_rfl
theorem info4 : (Try.prog.info? 4).map (fun i => (i.zero, i.size, i.bytes)) = some (some (.bool false), 1, 1) := by kernel_rfl
/-- An edge. -/
structure Ed where
  f : Nat
  t : Nat
  c : Int
def Ed.zero : Ed := ⟨0, 0, 0⟩
def ed (E : List Ed) (k : Nat) : Ed := E.getD k Ed.zero
/-- A step is one direction of an edge: where it begins and ends, and how much more may flow. -/
def frm (E : List Ed) (k : Nat) : Nat := if k % 2 = 0 then (ed E (k / 2)).f else (ed E (k / 2)).t
def tto (E : List Ed) (k : Nat) : Nat := if k % 2 = 0 then (ed E (k / 2)).t else (ed E (k / 2)).f
/-- A table of n values lies in block b. -/
def TbV (w : World) (b n : Nat) (ty : TypeId) (V : Nat → Value) : Prop := w.heap[b]? = some (.cells ((List.range n).map V).toArray ty (0, 0))
theorem TbV.lt {w : World} {b n : Nat} {ty : TypeId} {V : Nat → Value} (h : TbV w b n ty V) : b < w.heap.size := lt_of_block h
theorem TbV.same {w w' : World} {b n : Nat} {ty : TypeId} {V : Nat → Value} (h : TbV w b n ty V) (hs : w'.heap[b]? = w.heap[b]?) : TbV w' b n ty V := hs.trans h
theorem TbV.cell {w : World} {b n : Nat} {ty : TypeId} {V : Nat → Value} (h : TbV w b n ty V) {v : Nat} (hv : v < n) : w.cell? ⟨b, v, none⟩ = some (V v) := by
  unfold TbV at h
  simp [World.cell?, h, hv]
theorem TbV.free {w : World} {b n : Nat} {ty : TypeId} {V : Nat → Value} (h : TbV w b n ty V) (v : Nat) : w.frozen? ⟨b, v, none⟩ = false := by
  unfold TbV at h
  simp [World.frozen?, h]
theorem TbV.congr {w : World} {b n : Nat} {ty : TypeId} {V U : Nat → Value} (h : TbV w b n ty V) (e : ∀ v, v < n → V v = U v) : TbV w b n ty U := by
  unfold TbV at *
  rw [h]
  congr 3
  apply List.map_congr_left
  intro v hv
  rw [e v (by simpa using hv)]
def updV (V : Nat → Value) (x : Nat) (d : Value) : Nat → Value := fun y => if y = x then d else V y
theorem updV_self (V : Nat → Value) (x : Nat) (d : Value) : updV V x d x = d := by simp [updV]
theorem updV_ne (V : Nat → Value) {x y : Nat} (d : Value) (h : y ≠ x) : updV V x d y = V y := by simp [updV, h]
theorem tabV_set (n : Nat) (V : Nat → Value) (v : Nat) (x : Value) : ((List.range n).map V).toArray.setIfInBounds v x = ((List.range n).map (updV V v x)).toArray := by
  apply Array.ext'
  simp only [Array.toList_setIfInBounds]
  apply List.ext_getElem?
  intro i
  rw [List.getElem?_set]
  by_cases e : v = i
  · subst e
    by_cases h : v < n
    · simp [h, updV_self]
    · simp [h]
  · rw [if_neg e]
    by_cases h : i < n
    · simp [h, updV_ne V x (fun h : i = v => e h.symm)]
    · simp [h]
theorem TbV.set {w : World} {b n : Nat} {ty : TypeId} {V : Nat → Value} (h : TbV w b n ty V) (v : Nat) (x : Value) : TbV (w.setCell ⟨b, v, none⟩ x) b n ty (updV V v x) := by
  unfold TbV
  rw [heap_setCell_same w b v _ _ _ h, tabV_set]
/-- All blocks outside of D stay. -/
structure Fr (D : Nat → Prop) (w w' : World) : Prop where
  os : w'.os = w.os
  tape : w'.tape = w.tape
  output : w'.output = w.output
  size : w.heap.size ≤ w'.heap.size
  block : ∀ k, k < w.heap.size → ¬ D k → w'.heap[k]? = w.heap[k]?
theorem Fr.refl (D : Nat → Prop) (w : World) : Fr D w w := ⟨rfl, rfl, rfl, Nat.le_refl _, fun _ _ _ => rfl⟩
theorem Fr.setCell {D : Nat → Prop} {a b : World} (h : Fr D a b) (p : Addr) (u : Value) (hp : D p.block) : Fr D a (b.setCell p u) :=
  ⟨h.os, h.tape, h.output, by have := h.size; simpa [World.setCell] using this, fun k hk hn => (Below.heap_setCell b p u k (fun e => hn (e ▸ hp))).trans (h.block k hk hn)⟩
theorem Fr.drew {D : Nat → Prop} {a b : World} (h : Fr D a b) : Fr D a b.drew := ⟨h.os, h.tape, h.output, h.size, h.block⟩
theorem Fr.drewN {D : Nat → Prop} {a b : World} (h : Fr D a b) (n : Nat) : Fr D a (b.drewN n) := ⟨h.os, h.tape, h.output, h.size, h.block⟩
/-- The last step below b that leaves v; -1 if there is none. -/
def lst (E : List Ed) (v : Nat) : Nat → Int
  | 0 => -1
  | b + 1 => if frm E b = v then (b : Int) else lst E v b
theorem lst_cases (E : List Ed) (v : Nat) : ∀ b, (lst E v b = -1 ∧ ∀ k, k < b → frm E k ≠ v) ∨ ∃ k, k < b ∧ lst E v b = (k : Int) ∧ frm E k = v ∧ ∀ j, k < j → j < b → frm E j ≠ v
  | 0 => .inl ⟨rfl, fun _ h => absurd h (Nat.not_lt_zero _)⟩
  | b + 1 => by
    by_cases e : frm E b = v
    · exact .inr ⟨b, by omega, by simp [lst, e], e, fun j h1 h2 => by omega⟩
    · have h0 : lst E v (b + 1) = lst E v b := by simp [lst, e]
      rcases lst_cases E v b with ⟨h, hn⟩ | ⟨k, hk, h, hf, hn⟩
      · exact .inl ⟨h0.trans h, fun k hk => by
          by_cases e2 : k = b
          · subst e2; exact e
          · exact hn k (by omega)⟩
      · exact .inr ⟨k, by omega, h0.trans h, hf, fun j h1 h2 => by
          by_cases e2 : j = b
          · subst e2; exact e
          · exact hn j h1 (by omega)⟩
theorem lst_lt (E : List Ed) (v b : Nat) : lst E v b < b := by
  rcases lst_cases E v b with ⟨h, _⟩ | ⟨k, hk, h, _⟩ <;> omega
def updI (F : Nat → Int) (x : Nat) (d : Int) : Nat → Int := fun y => if y = x then d else F y
theorem updI_self (F : Nat → Int) (x : Nat) (d : Int) : updI F x d x = d := by simp [updI]
theorem updI_ne (F : Nat → Int) {x y : Nat} (d : Int) (h : y ≠ x) : updI F x d y = F y := by simp [updI, h]
theorem Fr.trans {D : Nat → Prop} {a b c : World} (h : Fr D a b) (h2 : Fr D b c) : Fr D a c :=
  ⟨h2.os.trans h.os, h2.tape.trans h.tape, h2.output.trans h.output, Nat.le_trans h.size h2.size, fun k hk hn => (h2.block k (Nat.lt_of_lt_of_le hk h.size) hn).trans (h.block k hk hn)⟩
theorem Fr.imp {D D2 : Nat → Prop} {a b : World} (h : Fr D a b) (hd : ∀ k, D k → D2 k) : Fr D2 a b :=
  ⟨h.os, h.tape, h.output, h.size, fun k hk hn => h.block k hk (fun e => hn (hd k e))⟩
theorem Fr.alloc {D : Nat → Prop} {a b : World} (h : Fr D a b) (o : Obj) : Fr D a (b.alloc o) :=
  ⟨h.os, h.tape, h.output, by have := h.size; simp; omega, fun k hk hn => (Below.heap_alloc b o k (Nat.lt_of_lt_of_le hk h.size)).trans (h.block k hk hn)⟩
theorem TbV.fr {D : Nat → Prop} {w w' : World} {b n : Nat} {ty : TypeId} {V : Nat → Value} (h : TbV w b n ty V) (hf : Fr D w w') (hn : ¬ D b) : TbV w' b n ty V := h.same (hf.block b h.lt hn)
theorem upd_rank (rk : Nat → Int) (v : Nat) (d : Int) : ∀ x, updV (fun v => Value.int .i64 (rk v)) v (.int .i64 d) x = .int .i64 (updI rk v d x) := fun x => by
  by_cases e : x = v
  · subst e; rw [updV_self, updI_self]
  · rw [updV_ne _ _ e, updI_ne _ _ e]
theorem Fr.below {D : Nat → Prop} {w w' : World} (h : Fr D w w') {B : Nat} (hB : B ≤ w.heap.size) (hd : ∀ k, D k → B ≤ k) : Below B w w' :=
  ⟨h.os, h.tape, h.output, h.size, fun k hk => h.block k (Nat.lt_of_lt_of_le hk hB) (fun e => absurd (hd k e) (Nat.not_le.2 hk))⟩
theorem made_int (n : Nat) : madeCells (Value.int .i64 0).cells (n * 1) = ((List.range n).map (fun _ => Value.int .i64 0)).toArray := by
  apply Array.ext'
  show (madeCells #[Value.int .i64 0] (n * 1)).toList = _
  rw [toList_madeCells_one, Nat.mul_one]
  apply List.ext_getElem
  · simp
  · intro i h1 h2
    simp
/-- The edges by number. -/
def edl (l : List A) : List Ed := l.map (fun x => ⟨x.f.toNat, x.t.toNat, x.w⟩)
theorem edl_len (l : List A) : (edl l).length = l.length := by simp [edl]
theorem edl_at {l : List A} {k : Nat} (hk : k < l.length) : ed (edl l) k = ⟨(l.getD k A.zero).f.toNat, (l.getD k A.zero).t.toNat, (l.getD k A.zero).w⟩ := by
  simp [ed, edl, hk]
theorem lst_step (E : List Ed) (b v : Nat) : lst E v (b + 1) = updI (fun v => lst E v b) (frm E b) (b : Int) v := by
  by_cases h : frm E b = v
  · subst h; rw [updI_self]; simp [lst]
  · rw [updI_ne _ _ (fun e => h e.symm)]; simp [lst, h]
theorem made_bool (n : Nat) : madeCells (Value.bool false).cells (n * 1) = ((List.range n).map (fun _ => Value.bool false)).toArray := by
  apply Array.ext'
  show (madeCells #[Value.bool false] (n * 1)).toList = _
  rw [toList_madeCells_one, Nat.mul_one]
  apply List.ext_getElem
  · simp
  · intro i h1 h2
    simp
/-- Numbers as cells. -/
def cellsI (l : List Int) : List Value := l.map (Value.int .i64)
theorem cellsI_len (l : List Int) : (cellsI l).length = l.length := by unfold cellsI; simp
theorem cellsI_snoc (l : List Int) (x : Int) : cellsI l ++ [.int .i64 x] = cellsI (l ++ [x]) := by unfold cellsI; simp
theorem cellsI_getD (xs : List Int) (k : Nat) (h : k < xs.length) : (cellsI xs)[k]? = some (.int .i64 (xs.getD k 0)) := by
  unfold cellsI
  simp [List.getD, List.getElem?_eq_getElem h]
theorem one_i64 (x : Int) : ∀ u ∈ [Value.int .i64 x], u.oneCell' = true := by intro u hu; simp at hu; subst hu; rfl
theorem one_new (w : World) (x : Int) : ∀ j u, [Value.int .i64 x][j]? = some u → (w.alloc (.cells #[.int .i64 x] 3)).cell? ((⟨w.heap.size, 0, none⟩ : Addr).add j) = some u := by
  intro j u hu
  match j, hu with
  | 0, hu => simp at hu; subst hu; simp [Addr.add]
/-- Numbers as cells. -/
def ints (q : List Nat) : List Int := q.map (fun x : Nat => (x : Int))
theorem ints_len (q : List Nat) : (ints q).length = q.length := by simp [ints]
theorem ints_snoc (q : List Nat) (v : Nat) : ints (q ++ [v]) = ints q ++ [(v : Int)] := by simp [ints]
theorem ints_getD {q : List Nat} {i : Nat} (hi : i < q.length) : (ints q).getD i 0 = ((q.getD i 0 : Nat) : Int) := by
  simp [ints, List.getD, List.getElem?_eq_getElem hi]
theorem below_drewN (B : Nat) (w : World) (k : Nat) : Below B w (w.drewN k) := ⟨rfl, rfl, rfl, Nat.le_refl _, fun _ _ => rfl⟩
theorem own_on {w w' : World} {base : Nat} {e : TypeId} {size : Nat} {v : Value} {k : Nat} {xs : List Value} (h : w.ownsRow base e size v k xs) (hb : Below w.heap.size w w') : w'.ownsRow base e size v k xs := by
  refine ⟨h.1, ?_⟩
  rcases h.2 with h' | ⟨g, c, cur, h1, h2, h3, h4⟩
  · exact Or.inl h'
  · exact Or.inr ⟨g, c, cur, h1, h2, (hb.block g (lt_of_block h3)).trans h3, h4⟩
theorem own_set {w : World} {base : Nat} {e : TypeId} {size : Nat} {v : Value} {n : Nat} {xs : List Value} (h : w.ownsRow base e size v n xs) (p : Addr) (u : Value) (hp : p.block < base) : (w.setCell p u).ownsRow base e size v n xs := by
  refine ⟨h.1, ?_⟩
  rcases h.2 with h' | ⟨g, c, cur, h1, h2, h3, h4⟩
  · exact Or.inl h'
  · exact Or.inr ⟨g, c, cur, h1, h2, (Below.heap_setCell w p u g (fun e => by omega)).trans h3, h4⟩
theorem own_shape {w : World} {base : Nat} {e : TypeId} {size : Nat} {v : Value} {n : Nat} {xs : List Value} (h : w.ownsRow base e size v n xs) (hn : v ≠ .slice none 0 0) : ∃ g c, v = .slice (some ⟨g, 0, none⟩) n c ∧ base ≤ g ∧ n ≤ c ∧ g < w.heap.size ∧ c ≤ 9223372036854775807 := by
  rcases h.2 with ⟨h', _⟩ | ⟨g, c, cur, h', hb, hg, hnc, hm, _⟩
  · exact absurd h' hn
  · exact ⟨g, c, h', hb, hnc, lt_of_block hg, hm⟩
theorem own_base {w : World} {base base' : Nat} {e : TypeId} {size : Nat} {v : Value} {n : Nat} {xs : List Value} (h : w.ownsRow base e size v n xs) (hb : base' ≤ base) : w.ownsRow base' e size v n xs := by
  refine ⟨h.1, ?_⟩
  rcases h.2 with h' | ⟨g, c, cur, h1, h2, h3⟩
  · exact Or.inl h'
  · exact Or.inr ⟨g, c, cur, h1, Nat.le_trans hb h2, h3⟩
theorem own_slice {w : World} {base : Nat} {e : TypeId} {size : Nat} {v : Value} {n : Nat} {xs : List Value} (h : w.ownsRow base e size v n xs) : ∃ a c, v = .slice a n c := by
  rcases h.2 with ⟨rfl, rfl⟩ | ⟨g, c, cur, rfl, _⟩
  · exact ⟨none, 0, rfl⟩
  · exact ⟨_, c, rfl⟩
theorem own_cell {w : World} {base : Nat} {a : Option Addr} {n cap : Nat} {ys : List Int} (h : w.ownsRow base 3 1 (.slice a n cap) n (cellsI ys)) (hl : ys.length = n) {j : Nat} (hj : j < n) : ∃ g, a = some ⟨g, 0, none⟩ ∧ g < w.heap.size ∧ base ≤ g ∧ w.cell? ⟨g, j, none⟩ = some (.int .i64 (ys.getD j 0)) := by
  rcases h.2 with ⟨h1, h2⟩ | ⟨g, c, cur, h1, h2, h3, _⟩
  · omega
  · injection h1 with ha hb hc
    subst ha
    have := World.ownsRow.cellAt h j (by omega)
    refine ⟨g, rfl, lt_of_block h3, h2, ?_⟩
    rw [cellsI_getD ys j (by omega)] at this
    exact this
theorem getD_snoc {q : List Nat} {v i : Nat} (hi : i < q.length) : (q ++ [v]).getD i 0 = q.getD i 0 := by simp [List.getD, List.getElem?_append_left hi]
theorem info_parts {P : Program} {e : TypeId} {z : Value} {s b : Nat} (h : (P.info? e).map (fun i => (i.zero, i.size, i.bytes)) = some (some z, s, b)) : ∃ i, P.info? e = some i ∧ i.zero = some z ∧ i.size = s ∧ i.bytes = b := by
  cases hi : P.info? e with
  | none => rw [hi] at h; simp at h
  | some i => rw [hi] at h; simp at h; exact ⟨i, rfl, h.1, h.2.1, h.2.2⟩
end Go.Proofs.Ytgpaoiddjlpcmaa
namespace Go.Proofs.Ytgpaoiddjlpcmaa
open Go.RowKit
/-- Numbers of a slice lie so in memory. -/
def Ints (w : World) (a : Option Addr) (xs : List Int) : Prop :=
  xs = [] ∨ ∃ b o, a = some ⟨b, o, none⟩ ∧ b < w.heap.size ∧ ∀ j, j < xs.length → w.cell? ⟨b, o + j, none⟩ = some (.int .i64 (xs.getD j 0))
theorem Ints.on {w w' : World} {a : Option Addr} {xs : List Int} (h : Ints w a xs) (hb : Below w.heap.size w w') : Ints w' a xs := by
  rcases h with h | ⟨b, o, rfl, hl, hc⟩
  · exact Or.inl h
  · exact Or.inr ⟨b, o, rfl, Nat.lt_of_lt_of_le hl hb.size, fun j hj => (hb.cell (p := ⟨b, o + j, none⟩) hl).trans (hc j hj)⟩
theorem ints_own {w : World} {B : Nat} {a : Option Addr} {c : Nat} {xs : List Int} (h : w.ownsRow B 3 1 (.slice a xs.length c) xs.length (cellsI xs)) : Ints w a xs := by
  by_cases h0 : xs = []
  · exact Or.inl h0
  · rcases h.2 with ⟨_, h'⟩ | ⟨g, c', cur, h', hb, hg, hnc, hm, _⟩
    · exact absurd (List.eq_nil_of_length_eq_zero h') h0
    · injection h' with e1 e2 e3
      subst e1
      refine Or.inr ⟨g, 0, rfl, lt_of_block hg, fun j hj => ?_⟩
      rw [Nat.zero_add, World.ownsRow.cellAt h j (by omega), cellsI_getD xs j hj]
theorem Ints.get {w : World} {a : Option Addr} {xs : List Int} (h : Ints w a xs) : ∃ b o, 0 < xs.length → a = some ⟨b, o, none⟩ ∧ b < w.heap.size ∧ ∀ j, j < xs.length → w.cell? ⟨b, o + j, none⟩ = some (.int .i64 (xs.getD j 0)) := by
  rcases h with rfl | ⟨b, o, h⟩
  · exact ⟨0, 0, fun h => absurd h (by simp)⟩
  · exact ⟨b, o, fun _ => h⟩
set_option maxHeartbeats 400000 in
theorem sameInts_any (a a' : Option Addr) (cap cap' : Nat) (xs : List Int) (w : World) (hlen : xs.length ≤ 9223372036854775807) (hr : Ints w a xs) (hr' : Ints w a' xs) :
    Calls Try.prog 20 #[.slice a xs.length cap, .slice a' xs.length cap'] w fun e w' => e = .returned (.bool true) ∧ Below w.heap.size w w' := by
  obtain ⟨b, o, hab⟩ := hr.get
  obtain ⟨b', o', hab'⟩ := hr'.get
  go_enter Try.func20, Try.ntmps20
  go_wp2_with fail
  go_loopw [5] (fun i wr => ∃ k n : Nat, k ≤ xs.length ∧ i = .int .i64 k ∧ wr = w.drewN n) (fun i _ => xs.length - (intOf i).toNat)
  case atStart => exact ⟨0, 0, Nat.zero_le _, rfl, rfl⟩
  case round =>
    obtain ⟨k, n, hk, rfl, rfl⟩ := hrel
    by_cases hlt : k < xs.length
    · obtain ⟨rfl, _, hc⟩ := hab (by omega)
      obtain ⟨rfl, _, hc'⟩ := hab' (by omega)
      have c1 := hc k hlt
      have c2 := hc' k hlt
      clear hc hc'
      generalize xs.getD k 0 = x at *
      go_wp2_with fail
      go_quiet (fail)
      go_wp2_with fail
      exact ⟨⟨k + 1, _, by omega, by go_num, rfl⟩, by simp [intOf]; omega⟩
    · go_wp2_with fail
      go_ret
      exact ⟨rfl, below_drewN _ _ _⟩
theorem own_ints {w : World} {base n cap : Nat} {a : Option Addr} {xs : List Nat} (h : w.ownsRow base 3 1 (.slice a n cap) n (cellsI (ints xs))) (hn : xs.length = n) : Ints w a (ints xs) := by
  rcases h.2 with ⟨e1, e2⟩ | ⟨g, c, cur, e1, _, h3, _⟩
  · left
    rw [e2] at hn
    rw [List.eq_nil_of_length_eq_zero hn]; rfl
  · injection e1 with e1 e2 e3
    subst e1
    right
    refine ⟨g, 0, rfl, lt_of_block h3, fun j hj => ?_⟩
    obtain ⟨g', e, _, _, hc⟩ := own_cell h (by rw [ints_len]; exact hn) (j := j) (by rw [ints_len] at hj; omega)
    injection e with e
    injection e with e
    subst e
    rw [Nat.zero_add]
    exact hc
end Go.Proofs.Ytgpaoiddjlpcmaa
namespace Go.Proofs.Ytgpaoiddjlpcmaa
open Go.RowKit
open Go.Sort (grow)
/-- A pair. -/
structure Pr where
  a : Nat
  b : Nat
deriving DecidableEq
instance : Inhabited Pr := ⟨⟨0, 0⟩⟩
def Pr.zero : Pr := ⟨0, 0⟩
/-- Its two cells. -/
def encP (p : Pr) : List Value := [.int .i64 (p.a : Int), .int .i64 (p.b : Int)]
theorem encP_len (p : Pr) : (encP p).length = 2 := rfl
def cellsP : List Pr → List Value
  | [] => []
  | p :: r => .int .i64 (p.a : Int) :: .int .i64 (p.b : Int) :: cellsP r
theorem cellsP_len : ∀ l : List Pr, (cellsP l).length = l.length * 2
  | [] => rfl
  | p :: r => by simp [cellsP, cellsP_len r]; omega
theorem cellsP_append : ∀ l m : List Pr, cellsP (l ++ m) = cellsP l ++ cellsP m
  | [], m => rfl
  | p :: r, m => by simp [cellsP, cellsP_append r m]
theorem cellsP_at : ∀ (l : List Pr) (j : Nat), j < l.length → (cellsP l)[j * 2]? = some (.int .i64 ((l.getD j Pr.zero).a : Int)) ∧ (cellsP l)[j * 2 + 1]? = some (.int .i64 ((l.getD j Pr.zero).b : Int))
  | [], j, h => absurd h (by simp)
  | p :: r, 0, _ => ⟨rfl, rfl⟩
  | p :: r, j + 1, h => by
    have ih := cellsP_at r j (by simpa using h)
    rw [show (j + 1) * 2 = j * 2 + 2 by omega]
    exact ih
theorem cellsP_one : ∀ (l : List Pr), ∀ u ∈ cellsP l, u.oneCell' = true
  | [], u, h => by simp [cellsP] at h
  | p :: r, u, h => by
    simp only [cellsP, List.mem_cons] at h
    rcases h with rfl | rfl | h
    · rfl
    · rfl
    · exact cellsP_one r u h
/-- A pair's cells lie at an address. -/
def Pr.at (x : Pr) (w : World) (b o : Nat) : Prop := w.cell? ⟨b, o, none⟩ = some (.int .i64 (x.a : Int)) ∧ w.cell? ⟨b, o + 1, none⟩ = some (.int .i64 (x.b : Int))
/-- The pairs of a slice lie so in memory. -/
def Prs (w : World) (a : Option Addr) (l : List Pr) : Prop := l = [] ∨ ∃ b o, a = some ⟨b, o, none⟩ ∧ b < w.heap.size ∧ ∀ j, j < l.length → (l.getD j Pr.zero).at w b (o + j * 2)
theorem Prs.on {w w' : World} {a : Option Addr} {l : List Pr} (h : Prs w a l) (hb : Below w.heap.size w w') : Prs w' a l := by
  rcases h with h | ⟨b, o, rfl, hl, hc⟩
  · exact .inl h
  · exact .inr ⟨b, o, rfl, Nat.lt_of_lt_of_le hl hb.size, fun j hj => ⟨(hb.cell (p := ⟨b, o + j * 2, none⟩) hl).trans (hc j hj).1, (hb.cell (p := ⟨b, o + j * 2 + 1, none⟩) hl).trans (hc j hj).2⟩⟩
theorem Prs.get {w : World} {a : Option Addr} {l : List Pr} (h : Prs w a l) : ∃ b o, 0 < l.length → a = some ⟨b, o, none⟩ ∧ b < w.heap.size ∧ ∀ j, j < l.length → (l.getD j Pr.zero).at w b (o + j * 2) := by
  rcases h with rfl | ⟨b, o, h⟩
  · exact ⟨0, 0, fun h => absurd h (by simp)⟩
  · exact ⟨b, o, fun _ => h⟩
/-- Pairs in a row of one's own. -/
def OwnP (w : World) (B : Nat) (a : Option Addr) (c : Nat) (l : List Pr) : Prop := w.ownsRow B 79 2 (.slice a l.length c) l.length (cellsP l)
theorem OwnP.prs {w : World} {B : Nat} {a : Option Addr} {c : Nat} {l : List Pr} (h : OwnP w B a c l) : Prs w a l := by
  by_cases h0 : l = []
  · exact .inl h0
  · rcases h.2 with ⟨_, h'⟩ | ⟨g, c', cur, h', hb, hg, hnc, hm, _⟩
    · exact absurd (List.eq_nil_of_length_eq_zero h') h0
    · injection h' with e1 e2 e3
      subst e1
      refine .inr ⟨g, 0, rfl, lt_of_block hg, fun j hj => ⟨?_, ?_⟩⟩
      · rw [Nat.zero_add, World.ownsRow.cellAt h (j * 2) (by omega), (cellsP_at l j hj).1]
      · rw [Nat.zero_add, World.ownsRow.cellAt h (j * 2 + 1) (by omega), (cellsP_at l j hj).2]
theorem info41 : (Try.prog.info? 79).map (fun i => (i.zero, i.size, i.bytes)) = some (some (.agg #[.int .i64 0, .int .i64 0]), 2, 16) := by kernel_rfl
/-- How two numbers compare. -/
def cmpI (x y : Int) : Int := if x < y then -1 else if y < x then 1 else 0
theorem isNaN_any (x : Int) (w : World) : Calls Try.prog 72 #[.int .i64 x] w fun e w' => e = .returned (.bool false) ∧ w' = w := by
  go_enter Try.func72, Try.ntmps72
  go_wp2_with fail
  go_ret
  exact ⟨rfl, rfl⟩
set_option maxHeartbeats 800000 in
theorem compare_any (x y : Int) (w : World) : Calls Try.prog 60 #[.int .i64 x, .int .i64 y] w fun e w' => e = .returned (.int .i64 (cmpI x y)) ∧ w' = w := by
  unfold cmpI
  by_cases h1 : x < y
  · rw [if_pos h1]
    go_enter Try.func60, Try.ntmps60
    go_wp2_with fail
    refine (isNaN_any x w).mono ?_
    rintro e w1 ⟨rfl, rfl⟩
    go_wp2_with fail
    refine (isNaN_any y w1).mono ?_
    rintro e w2 ⟨rfl, rfl⟩
    go_wp2_with fail
    go_ret
    exact ⟨rfl, rfl⟩
  · rw [if_neg h1]
    by_cases h2 : y < x
    · rw [if_pos h2]
      go_enter Try.func60, Try.ntmps60
      go_wp2_with fail
      refine (isNaN_any x w).mono ?_
      rintro e w1 ⟨rfl, rfl⟩
      go_wp2_with fail
      refine (isNaN_any y w1).mono ?_
      rintro e w2 ⟨rfl, rfl⟩
      go_wp2_with fail
      go_ret
      exact ⟨rfl, rfl⟩
    · rw [if_neg h2]
      go_enter Try.func60, Try.ntmps60
      go_wp2_with fail
      refine (isNaN_any x w).mono ?_
      rintro e w1 ⟨rfl, rfl⟩
      go_wp2_with fail
      refine (isNaN_any y w1).mono ?_
      rintro e w2 ⟨rfl, rfl⟩
      go_wp2_with fail
      go_ret
      exact ⟨rfl, rfl⟩
/-- The first that is not 0. -/
def orI (x y : Int) : Int := if x = 0 then y else x
set_option maxHeartbeats 800000 in
theorem or_any (b : Nat) (x y : Int) (w : World) (h0 : w.cell? ⟨b, 0, none⟩ = some (.int .i64 x)) (h1 : w.cell? ⟨b, 1, none⟩ = some (.int .i64 y)) : Calls Try.prog 59 #[.slice (some ⟨b, 0, none⟩) 2 2] w fun e w' => e = .returned (.int .i64 (orI x y)) ∧ w' = w := by
  obtain ⟨R, HR⟩ := named (orI x y)
  rw [HR.out]
  go_enter Try.func59, Try.ntmps59
  go_wp2_with fail
  go_loopw [8] (fun i wr => wr = w ∧ ∃ k : Nat, k ≤ 2 ∧ i = .int .i64 k ∧ (1 ≤ k → x = 0) ∧ (2 ≤ k → y = 0)) (fun i _ => 2 - (intOf i).toNat)
  case atStart => exact ⟨rfl, 0, by omega, rfl, by omega, by omega⟩
  case round =>
    obtain ⟨rfl, k, hk, rfl, hx, hy⟩ := hrel
    have hk3 : k = 0 ∨ k = 1 ∨ k = 2 := by omega
    rcases hk3 with rfl | rfl | rfl
    · by_cases hx0 : x = 0
      · have hx1 : (x != 0) = false := by simp [hx0]
        go_wp2_with fail
        exact ⟨⟨trivial, 1, by omega, by simp, fun _ => hx0, by omega⟩, by simp [intOf]⟩
      · have hx1 : (x != 0) = true := by simp [hx0]
        have hR : R = x := by rw [← HR.out]; unfold orI; rw [if_neg hx0]
        subst hR
        go_wp2_with fail
        go_ret
        exact ⟨rfl, rfl⟩
    · have hx0 : Hid (x = 0) := hx (by omega)
      clear hx hy
      by_cases hy0 : y = 0
      · have hy1 : (y != 0) = false := by simp [hy0]
        have HY0 := Lib.hid hy0
        go_wp2_with fail
        exact ⟨⟨trivial, 2, by omega, by simp, fun _ => hx0.out, fun _ => HY0.out⟩, by simp [intOf]⟩
      · have hy1 : (y != 0) = true := by simp [hy0]
        have hR : R = y := by rw [← HR.out]; unfold orI; rw [if_pos hx0.out]
        subst hR
        go_wp2_with fail
        go_ret
        exact ⟨rfl, rfl⟩
    · have hR : R = 0 := by rw [← HR.out]; unfold orI; rw [if_pos (hx (by omega)), hy (by omega)]
      subst hR
      clear hx hy
      go_wp2_with fail
      go_ret
      exact ⟨rfl, rfl⟩
theorem topc (V : World) (x y : Value) (t : TypeId) : (V.alloc (.cells #[x, y] t)).drew.cell? ⟨V.heap.size, 0, none⟩ = some x ∧ (V.alloc (.cells #[x, y] t)).drew.cell? ⟨V.heap.size, 1, none⟩ = some y := (two_cells (heap_top V (.cells #[x, y] t))).1
/-- How two pairs compare. -/
def cmpP (p q : Pr) : Int := orI (cmpI p.a q.a) (cmpI p.b q.b)
/-- A world that drew and made blocks, and did nothing else. -/
def Gwn (w w' : World) : Prop := ∃ n os, w' = grow (w.drewN n) os
set_option maxRecDepth 100000 in
set_option maxHeartbeats 1600000 in
theorem inOrder_any (p q : Pr) (w : World) : Calls Try.prog 52 #[.agg #[.int .i64 (p.a : Int), .int .i64 (p.b : Int)], .agg #[.int .i64 (q.a : Int), .int .i64 (q.b : Int)]] w fun e w' => e = .returned (.int .i64 (cmpP p q)) ∧ Gwn w w' := by
  obtain ⟨R, HR⟩ := named (cmpP p q)
  rw [HR.out]
  unfold cmpP at HR
  obtain ⟨c1, HC1⟩ := named (cmpI p.a q.a)
  obtain ⟨c2, HC2⟩ := named (cmpI p.b q.b)
  rw [HC1.out, HC2.out] at HR
  have hp : ((w.alloc (.cells #[.int .i64 (p.a : Int), .int .i64 (p.b : Int)] 79)).alloc (.cells #[.int .i64 (q.a : Int), .int .i64 (q.b : Int)] 79)).heap[w.heap.size]? = some (.cells #[.int .i64 (p.a : Int), .int .i64 (p.b : Int)] 79) := (Below.heap_alloc _ _ _ (by simp)).trans (heap_top w _)
  have hq := heap_top (w.alloc (.cells #[.int .i64 (p.a : Int), .int .i64 (p.b : Int)] 79)) (.cells #[.int .i64 (q.a : Int), .int .i64 (q.b : Int)] 79)
  rw [World.size_alloc] at hq
  have HW : Hid (∀ o, Gwn w (((w.alloc (.cells #[.int .i64 (p.a : Int), .int .i64 (p.b : Int)] 79)).alloc (.cells #[.int .i64 (q.a : Int), .int .i64 (q.b : Int)] 79)).alloc o).drew) := fun o => ⟨1, #[.cells #[.int .i64 (p.a : Int), .int .i64 (p.b : Int)] 79, .cells #[.int .i64 (q.a : Int), .int .i64 (q.b : Int)] 79, o], by rw [Go.Sort.alloc_eq_grow, Go.Sort.alloc_eq_grow, Go.Sort.alloc_eq_grow, Go.Sort.grow_grow, Go.Sort.grow_grow]; rfl⟩
  obtain ⟨⟨p0, p1⟩, _⟩ := two_cells hp
  obtain ⟨⟨q0, q1⟩, _⟩ := two_cells hq
  go_enter Try.func52, Try.ntmps52
  go_wp2_with fail
  generalize hV : (w.alloc (.cells #[.int .i64 (p.a : Int), .int .i64 (p.b : Int)] 79)).alloc (.cells #[.int .i64 (q.a : Int), .int .i64 (q.b : Int)] 79) = V at *
  clear hV hp hq
  go_region_held3 (fun w' => w'.cell? ⟨w.heap.size, 0, none⟩ = some (.int .i64 (p.a : Int)) ∧ w'.cell? ⟨w.heap.size, 1, none⟩ = some (.int .i64 (p.b : Int)) ∧ w'.cell? ⟨w.heap.size + 1, 0, none⟩ = some (.int .i64 (q.a : Int)) ∧ w'.cell? ⟨w.heap.size + 1, 1, none⟩ = some (.int .i64 (q.b : Int))) (go_keep) ((first | (go_at_call 60; refine (compare_any _ _ _).mono ?_; rintro e w2 ⟨rfl, rfl⟩; first | rw [HC1.out] | rw [HC2.out]) | (go_at_call 59; refine (or_any _ c1 c2 _ (topc _ _ _ _).1 (topc _ _ _ _).2).mono ?_; rintro e w2 ⟨rfl, rfl⟩; rw [HR.out])))
  go_wp2_with fail
  go_ret
  exact ⟨rfl, HW.out _⟩
end Go.Proofs.Ytgpaoiddjlpcmaa
namespace Go.Proofs.Ytgpaoiddjlpcmaa
open Go.RowKit
/-- What grow.check answers. -/
def gchk (N c m : Int) (l : List A) : Int := if chkE N l ≠ 0 then chkE N l else if ¬ (0 ≤ c ∧ c < N) then 5 else if m < 1 ∨ 1024 < m then 1 else 0
theorem gchk_zero {N c m : Int} {l : List A} (h : gchk N c m l = 0) : chkE N l = 0 ∧ (0 ≤ c ∧ c < N) ∧ 1 ≤ m ∧ m ≤ 1024 := by
  unfold gchk at h
  split at h
  · exact absurd h (by assumption)
  · rename_i h1
    have h1 : chkE N l = 0 := by omega
    split at h
    · cases h
    · rename_i h2
      split at h
      · cases h
      · exact ⟨h1, by omega, by omega, by omega⟩
end Go.Proofs.Ytgpaoiddjlpcmaa
namespace Go.Proofs.Ytgpaoiddjlpcmaa
open Go.RowKit
theorem run_append_new {P : Program} (w : World) (base : Nat) (t ty e : TypeId) (i : TypeInfo) (z : Value) (size bytes : Nat) (ht : P.underlying t = some (.slice e)) (hi : P.info? e = some i) (hz : i.zero = some z)
    (hsize : i.size = size) (hby : i.bytes = bytes) (hzs : z.cells.size = size) (hsz : 0 < size)
    (v : Value) (n : Nat) (xs : List Value) (hown : w.ownsRow base e size v n xs)
    (a : Addr) (m c : Nat) (news : List Value) (hl : news.length = m * size) (hnews : ∀ j u, news[j]? = some u → w.cell? (a.add j) = some u) (h1 : ∀ u ∈ news, u.oneCell' = true)
    (h63 : n + m ≤ maxLen) (hbytes : (n + m) * bytes ≤ 140737488355328) (hbase : base ≤ w.heap.size) (hm : 0 < m) :
    ∃ v' w', (Builtin.append_ #[t, t] ty #[v, .slice (some a) m c]).run P w = .ok v' w' ∧ w'.ownsRow base e size v' (n + m) (xs ++ news) ∧ w.grownBy w' v.ownBlock ∧ (v'.ownBlock = v.ownBlock ∨ v'.ownBlock = some w.heap.size) := by
  obtain ⟨v', w', hr, h2, h3, h4⟩ := run_append_own (P := P) w base t ty e i z size bytes ht hi hz hsize hby hzs hsz v n xs hown a m c news hl hnews h1 h63 hbytes hbase
  refine ⟨v', w', hr, h2, h3, ?_⟩
  subst hsize
  subst hby
  have hsmall : n + m ≤ 9223372036854775807 := by simp only [maxLen] at h63; omega
  rcases hown.2 with ⟨rfl, rfl⟩ | ⟨g, cap, cur, rfl, hbg, hg, hnc, hcm, hcs, htake⟩
  · have hr2 := run_append_nil (P := P) w t ty e i z ht hi hz a m c news hl hnews (by omega) (by omega) (by have hb := hbytes; simp only [Nat.zero_add] at hb; omega)
    rw [hr2] at hr
    injection hr with e1 e2
    right
    rw [← e1]
    rfl
  · by_cases hroom : n + m ≤ cap
    · have hfit : n * i.size + news.length ≤ cur.size := by rw [hl, hcs, ← Nat.add_mul]; exact Nat.mul_le_mul_right _ hroom
      have hr2 := run_append_room (P := P) w t ty e i ht hi g n cap cur hg a m c news hl hnews h1 hroom hfit
      rw [hr2] at hr
      injection hr with e1 e2
      left
      rw [← e1]
      rfl
    · have holds : ∀ j u, xs[j]? = some u → w.cell? ((⟨g, 0, none⟩ : Addr).add j) = some u := hown.cells (g := g) rfl
      have hr2 := run_append_grow (P := P) w t ty e i z ht hi hz ⟨g, 0, none⟩ n cap xs hown.1 holds a m c news hl hnews (by omega) (by omega) (growslice_fits (by omega) hbytes)
      rw [hr2] at hr
      injection hr with e1 e2
      right
      rw [← e1]
      rfl
theorem wp_append_new {P : Program} {w : World} {o : Oper} {a : Act} {K : Act → World → Prop} {Q : Exit → Act → World → Prop} (s x : Operand) (t : TypeId)
    (ho : o.op = .call { callee := .builtin .append, args := #[s, x], argTypes := #[t, t] })
    (base : Nat) (e : TypeId) (i : TypeInfo) (z : Value) (size bytes : Nat) (ht : P.underlying t = some (.slice e)) (hi : P.info? e = some i) (hz : i.zero = some z)
    (hsize : i.size = size) (hby : i.bytes = bytes) (hzs : z.cells.size = size) (hsz : 0 < size)
    (v : Value) (n : Nat) (xs : List Value) (hs : a.eval s = v) (hown : w.ownsRow base e size v n xs)
    (ad : Addr) (m c : Nat) (news : List Value) (hx : a.eval x = .slice (some ad) m c) (hl : news.length = m * size) (hnews : ∀ j u, news[j]? = some u → w.cell? (ad.add j) = some u) (h1 : ∀ u ∈ news, u.oneCell' = true)
    (h63 : n + m ≤ maxLen) (hbytes : (n + m) * bytes ≤ 140737488355328) (hbase : base ≤ w.heap.size) (hm : 0 < m)
    (h : ∀ v' w', w'.ownsRow base e size v' (n + m) (xs ++ news) → w.grownBy w' v.ownBlock → (v'.ownBlock = v.ownBlock ∨ v'.ownBlock = some w.heap.size) → K (a.put o.dst v') w') : o.wp P a w K Q := by
  obtain ⟨v', w', hr, h2, h3, h4⟩ := run_append_new (P := P) w base t o.type e i z size bytes ht hi hz hsize hby hzs hsz v n xs hown ad m c news hl hnews h1 h63 hbytes hbase hm
  unfold Oper.wp
  simp [execOp, ho, resolve, invoke, builtin, hs, hx, hr, Result.andThen]
  exact h v' w' h2 h3 h4
theorem wpList_append_new {P : Program} {w : World} {ops : Array Oper} {rest : List Oper} {o : Oper} {a : Act} {Q : Exit → Act → World → Prop} (hgd : o.guard = none) (s x : Operand) (t : TypeId)
    (ho : o.op = .call { callee := .builtin .append, args := #[s, x], argTypes := #[t, t] })
    (base : Nat) (e : TypeId) (i : TypeInfo) (z : Value) (size bytes : Nat) (ht : P.underlying t = some (.slice e)) (hi : P.info? e = some i) (hz : i.zero = some z)
    (hsize : i.size = size) (hby : i.bytes = bytes) (hzs : z.cells.size = size) (hsz : 0 < size)
    (v : Value) (n : Nat) (xs : List Value) (hs : a.eval s = v) (hown : w.ownsRow base e size v n xs)
    (ad : Addr) (m c : Nat) (news : List Value) (hx : a.eval x = .slice (some ad) m c) (hl : news.length = m * size) (hnews : ∀ j u, news[j]? = some u → w.cell? (ad.add j) = some u) (h1 : ∀ u ∈ news, u.oneCell' = true)
    (h63 : n + m ≤ maxLen) (hbytes : (n + m) * bytes ≤ 140737488355328) (hbase : base ≤ w.heap.size) (hm : 0 < m)
    (h : ∀ v' w', w'.ownsRow base e size v' (n + m) (xs ++ news) → w.grownBy w' v.ownBlock → (v'.ownBlock = v.ownBlock ∨ v'.ownBlock = some w.heap.size) → wpList P ops Q rest (a.put o.dst v') w') : wpList P ops Q (o :: rest) a w :=
  wpList_plain hgd fun _ hK => wp_append_new s x t ho base e i z size bytes ht hi hz hsize hby hzs hsz v n xs hs hown ad m c news hx hl hnews h1 h63 hbytes hbase hm fun v' w' h2 h3 h4 => hK _ _ (h v' w' h2 h3 h4)
end Go.Proofs.Ytgpaoiddjlpcmaa
