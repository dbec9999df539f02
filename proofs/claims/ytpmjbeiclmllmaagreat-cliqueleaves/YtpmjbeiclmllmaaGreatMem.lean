/-
  Tables, rows and chains of arcs' ends: what the walks of grow use.
-/
import Derived.Test.YtpmjbeiclmllmaaGreatBase
import Derived.Laws.MakeOwn
import Derived.Laws.AppendOwn
import Derived.Laws.OwnMore
import Derived.Lib.Hide
import Derived.BigRegion
import Derived.Deep.LoopGhost
import Derived.Deep.QuietTactic
import Derived.BigQuiet
namespace Go.Proofs.YtpmjbeiclmllmaaGreat
open Go.RowKit
theorem info3 : (Tryz.prog.info? 3).map (fun i => (i.zero, i.size, i.bytes)) = some (some (.int .i64 0), 1, 8) := by kernel_rfl
theorem info4 : (Tryz.prog.info? 4).map (fun i => (i.zero, i.size, i.bytes)) = some (some (.bool false), 1, 1) := by kernel_rfl
/-- An edge. -/
structure Ed where
  f : Nat
  t : Nat
  c : Int
def Ed.zero : Ed := ⟨0, 0, 0⟩
def ed (E : List Ed) (k : Nat) : Ed := E.getD k Ed.zero
/-- A step is one direction of an edge: where it begins and ends, and how much more may flow. -/
def frm (E : List Ed) (k : Nat) : Nat := if k % 2 = 0 then (ed E (k / 2)).f else (ed E (k / 2)).t
def tto (E : List Ed) (k : Nat) : Nat := if k % 2 = 0 then (ed E (k / 2)).t else (ed E (k / 2)).f
/-- A table of n values lies in block b. -/
def TbV (w : World) (b n : Nat) (ty : TypeId) (V : Nat → Value) : Prop := w.heap[b]? = some (.cells ((List.range n).map V).toArray ty (0, 0))
theorem TbV.lt {w : World} {b n : Nat} {ty : TypeId} {V : Nat → Value} (h : TbV w b n ty V) : b < w.heap.size := lt_of_block h
theorem TbV.same {w w' : World} {b n : Nat} {ty : TypeId} {V : Nat → Value} (h : TbV w b n ty V) (hs : w'.heap[b]? = w.heap[b]?) : TbV w' b n ty V := hs.trans h
theorem TbV.cell {w : World} {b n : Nat} {ty : TypeId} {V : Nat → Value} (h : TbV w b n ty V) {v : Nat} (hv : v < n) : w.cell? ⟨b, v, none⟩ = some (V v) := by
  unfold TbV at h
  simp [World.cell?, h, hv]
theorem TbV.free {w : World} {b n : Nat} {ty : TypeId} {V : Nat → Value} (h : TbV w b n ty V) (v : Nat) : w.frozen? ⟨b, v, none⟩ = false := by
  unfold TbV at h
  simp [World.frozen?, h]
theorem TbV.congr {w : World} {b n : Nat} {ty : TypeId} {V U : Nat → Value} (h : TbV w b n ty V) (e : ∀ v, v < n → V v = U v) : TbV w b n ty U := by
  unfold TbV at *
  rw [h]
  congr 3
  apply List.map_congr_left
  intro v hv
  rw [e v (by simpa using hv)]
def updV (V : Nat → Value) (x : Nat) (d : Value) : Nat → Value := fun y => if y = x then d else V y
theorem updV_self (V : Nat → Value) (x : Nat) (d : Value) : updV V x d x = d := by simp [updV]
theorem updV_ne (V : Nat → Value) {x y : Nat} (d : Value) (h : y ≠ x) : updV V x d y = V y := by simp [updV, h]
theorem tabV_set (n : Nat) (V : Nat → Value) (v : Nat) (x : Value) : ((List.range n).map V).toArray.setIfInBounds v x = ((List.range n).map (updV V v x)).toArray := by
  apply Array.ext'
  simp only [Array.toList_setIfInBounds]
  apply List.ext_getElem?
  intro i
  rw [List.getElem?_set]
  by_cases e : v = i
  · subst e
    by_cases h : v < n
    · simp [h, updV_self]
    · simp [h]
  · rw [if_neg e]
    by_cases h : i < n
    · simp [h, updV_ne V x (fun h : i = v => e h.symm)]
    · simp [h]
theorem TbV.set {w : World} {b n : Nat} {ty : TypeId} {V : Nat → Value} (h : TbV w b n ty V) (v : Nat) (x : Value) : TbV (w.setCell ⟨b, v, none⟩ x) b n ty (updV V v x) := by
  unfold TbV
  rw [heap_setCell_same w b v _ _ _ h, tabV_set]
/-- All blocks outside of D stay. -/
structure Fr (D : Nat → Prop) (w w' : World) : Prop where
  os : w'.os = w.os
  tape : w'.tape = w.tape
  output : w'.output = w.output
  size : w.heap.size ≤ w'.heap.size
  block : ∀ k, k < w.heap.size → ¬ D k → w'.heap[k]? = w.heap[k]?
theorem Fr.refl (D : Nat → Prop) (w : World) : Fr D w w := ⟨rfl, rfl, rfl, Nat.le_refl _, fun _ _ _ => rfl⟩
theorem Fr.setCell {D : Nat → Prop} {a b : World} (h : Fr D a b) (p : Addr) (u : Value) (hp : D p.block) : Fr D a (b.setCell p u) :=
  ⟨h.os, h.tape, h.output, by have := h.size; simpa [World.setCell] using this, fun k hk hn => (Below.heap_setCell b p u k (fun e => hn (e ▸ hp))).trans (h.block k hk hn)⟩
theorem Fr.drew {D : Nat → Prop} {a b : World} (h : Fr D a b) : Fr D a b.drew := ⟨h.os, h.tape, h.output, h.size, h.block⟩
theorem Fr.drewN {D : Nat → Prop} {a b : World} (h : Fr D a b) (n : Nat) : Fr D a (b.drewN n) := ⟨h.os, h.tape, h.output, h.size, h.block⟩
/-- The last step below b that leaves v; -1 if there is none. -/
def lst (E : List Ed) (v : Nat) : Nat → Int
  | 0 => -1
  | b + 1 => if frm E b = v then (b : Int) else lst E v b
theorem lst_cases (E : List Ed) (v : Nat) : ∀ b, (lst E v b = -1 ∧ ∀ k, k < b → frm E k ≠ v) ∨ ∃ k, k < b ∧ lst E v b = (k : Int) ∧ frm E k = v ∧ ∀ j, k < j → j < b → frm E j ≠ v
  | 0 => .inl ⟨rfl, fun _ h => absurd h (Nat.not_lt_zero _)⟩
  | b + 1 => by
    by_cases e : frm E b = v
    · exact .inr ⟨b, by omega, by simp [lst, e], e, fun j h1 h2 => by omega⟩
    · have h0 : lst E v (b + 1) = lst E v b := by simp [lst, e]
      rcases lst_cases E v b with ⟨h, hn⟩ | ⟨k, hk, h, hf, hn⟩
      · exact .inl ⟨h0.trans h, fun k hk => by
          by_cases e2 : k = b
          · subst e2; exact e
          · exact hn k (by omega)⟩
      · exact .inr ⟨k, by omega, h0.trans h, hf, fun j h1 h2 => by
          by_cases e2 : j = b
          · subst e2; exact e
          · exact hn j h1 (by omega)⟩
theorem lst_lt (E : List Ed) (v b : Nat) : lst E v b < b := by
  rcases lst_cases E v b with ⟨h, _⟩ | ⟨k, hk, h, _⟩ <;> omega
def updI (F : Nat → Int) (x : Nat) (d : Int) : Nat → Int := fun y => if y = x then d else F y
theorem updI_self (F : Nat → Int) (x : Nat) (d : Int) : updI F x d x = d := by simp [updI]
theorem updI_ne (F : Nat → Int) {x y : Nat} (d : Int) (h : y ≠ x) : updI F x d y = F y := by simp [updI, h]
theorem Fr.trans {D : Nat → Prop} {a b c : World} (h : Fr D a b) (h2 : Fr D b c) : Fr D a c :=
  ⟨h2.os.trans h.os, h2.tape.trans h.tape, h2.output.trans h.output, Nat.le_trans h.size h2.size, fun k hk hn => (h2.block k (Nat.lt_of_lt_of_le hk h.size) hn).trans (h.block k hk hn)⟩
theorem Fr.imp {D D2 : Nat → Prop} {a b : World} (h : Fr D a b) (hd : ∀ k, D k → D2 k) : Fr D2 a b :=
  ⟨h.os, h.tape, h.output, h.size, fun k hk hn => h.block k hk (fun e => hn (hd k e))⟩
theorem Fr.alloc {D : Nat → Prop} {a b : World} (h : Fr D a b) (o : Obj) : Fr D a (b.alloc o) :=
  ⟨h.os, h.tape, h.output, by have := h.size; simp; omega, fun k hk hn => (Below.heap_alloc b o k (Nat.lt_of_lt_of_le hk h.size)).trans (h.block k hk hn)⟩
theorem TbV.fr {D : Nat → Prop} {w w' : World} {b n : Nat} {ty : TypeId} {V : Nat → Value} (h : TbV w b n ty V) (hf : Fr D w w') (hn : ¬ D b) : TbV w' b n ty V := h.same (hf.block b h.lt hn)
theorem upd_rank (rk : Nat → Int) (v : Nat) (d : Int) : ∀ x, updV (fun v => Value.int .i64 (rk v)) v (.int .i64 d) x = .int .i64 (updI rk v d x) := fun x => by
  by_cases e : x = v
  · subst e; rw [updV_self, updI_self]
  · rw [updV_ne _ _ e, updI_ne _ _ e]
theorem Fr.below {D : Nat → Prop} {w w' : World} (h : Fr D w w') {B : Nat} (hB : B ≤ w.heap.size) (hd : ∀ k, D k → B ≤ k) : Below B w w' :=
  ⟨h.os, h.tape, h.output, h.size, fun k hk => h.block k (Nat.lt_of_lt_of_le hk hB) (fun e => absurd (hd k e) (Nat.not_le.2 hk))⟩
theorem made_int (n : Nat) : madeCells (Value.int .i64 0).cells (n * 1) = ((List.range n).map (fun _ => Value.int .i64 0)).toArray := by
  apply Array.ext'
  show (madeCells #[Value.int .i64 0] (n * 1)).toList = _
  rw [toList_madeCells_one, Nat.mul_one]
  apply List.ext_getElem
  · simp
  · intro i h1 h2
    simp
/-- The edges by number. -/
def edl (l : List A) : List Ed := l.map (fun x => ⟨x.f.toNat, x.t.toNat, x.w⟩)
theorem edl_len (l : List A) : (edl l).length = l.length := by simp [edl]
theorem edl_at {l : List A} {k : Nat} (hk : k < l.length) : ed (edl l) k = ⟨(l.getD k A.zero).f.toNat, (l.getD k A.zero).t.toNat, (l.getD k A.zero).w⟩ := by
  simp [ed, edl, hk]
theorem lst_step (E : List Ed) (b v : Nat) : lst E v (b + 1) = updI (fun v => lst E v b) (frm E b) (b : Int) v := by
  by_cases h : frm E b = v
  · subst h; rw [updI_self]; simp [lst]
  · rw [updI_ne _ _ (fun e => h e.symm)]; simp [lst, h]
theorem made_bool (n : Nat) : madeCells (Value.bool false).cells (n * 1) = ((List.range n).map (fun _ => Value.bool false)).toArray := by
  apply Array.ext'
  show (madeCells #[Value.bool false] (n * 1)).toList = _
  rw [toList_madeCells_one, Nat.mul_one]
  apply List.ext_getElem
  · simp
  · intro i h1 h2
    simp
/-- Numbers as cells. -/
def cellsI (l : List Int) : List Value := l.map (Value.int .i64)
theorem cellsI_len (l : List Int) : (cellsI l).length = l.length := by unfold cellsI; simp
theorem cellsI_snoc (l : List Int) (x : Int) : cellsI l ++ [.int .i64 x] = cellsI (l ++ [x]) := by unfold cellsI; simp
theorem cellsI_getD (xs : List Int) (k : Nat) (h : k < xs.length) : (cellsI xs)[k]? = some (.int .i64 (xs.getD k 0)) := by
  unfold cellsI
  simp [List.getD, List.getElem?_eq_getElem h]
theorem one_i64 (x : Int) : ∀ u ∈ [Value.int .i64 x], u.oneCell' = true := by intro u hu; simp at hu; subst hu; rfl
theorem one_new (w : World) (x : Int) : ∀ j u, [Value.int .i64 x][j]? = some u → (w.alloc (.cells #[.int .i64 x] 3)).cell? ((⟨w.heap.size, 0, none⟩ : Addr).add j) = some u := by
  intro j u hu
  match j, hu with
  | 0, hu => simp at hu; subst hu; simp [Addr.add]
/-- Numbers as cells. -/
def ints (q : List Nat) : List Int := q.map (fun x : Nat => (x : Int))
theorem ints_len (q : List Nat) : (ints q).length = q.length := by simp [ints]
theorem ints_snoc (q : List Nat) (v : Nat) : ints (q ++ [v]) = ints q ++ [(v : Int)] := by simp [ints]
theorem ints_getD {q : List Nat} {i : Nat} (hi : i < q.length) : (ints q).getD i 0 = ((q.getD i 0 : Nat) : Int) := by
  simp [ints, List.getD, List.getElem?_eq_getElem hi]
theorem below_drewN (B : Nat) (w : World) (k : Nat) : Below B w (w.drewN k) := ⟨rfl, rfl, rfl, Nat.le_refl _, fun _ _ => rfl⟩
theorem own_on {w w' : World} {base : Nat} {e : TypeId} {size : Nat} {v : Value} {k : Nat} {xs : List Value} (h : w.ownsRow base e size v k xs) (hb : Below w.heap.size w w') : w'.ownsRow base e size v k xs := by
  refine ⟨h.1, ?_⟩
  rcases h.2 with h' | ⟨g, c, cur, h1, h2, h3, h4⟩
  · exact Or.inl h'
  · exact Or.inr ⟨g, c, cur, h1, h2, (hb.block g (lt_of_block h3)).trans h3, h4⟩
theorem own_set {w : World} {base : Nat} {e : TypeId} {size : Nat} {v : Value} {n : Nat} {xs : List Value} (h : w.ownsRow base e size v n xs) (p : Addr) (u : Value) (hp : p.block < base) : (w.setCell p u).ownsRow base e size v n xs := by
  refine ⟨h.1, ?_⟩
  rcases h.2 with h' | ⟨g, c, cur, h1, h2, h3, h4⟩
  · exact Or.inl h'
  · exact Or.inr ⟨g, c, cur, h1, h2, (Below.heap_setCell w p u g (fun e => by omega)).trans h3, h4⟩
theorem own_shape {w : World} {base : Nat} {e : TypeId} {size : Nat} {v : Value} {n : Nat} {xs : List Value} (h : w.ownsRow base e size v n xs) (hn : v ≠ .slice none 0 0) : ∃ g c, v = .slice (some ⟨g, 0, none⟩) n c ∧ base ≤ g ∧ n ≤ c ∧ g < w.heap.size ∧ c ≤ 9223372036854775807 := by
  rcases h.2 with ⟨h', _⟩ | ⟨g, c, cur, h', hb, hg, hnc, hm, _⟩
  · exact absurd h' hn
  · exact ⟨g, c, h', hb, hnc, lt_of_block hg, hm⟩
theorem own_base {w : World} {base base' : Nat} {e : TypeId} {size : Nat} {v : Value} {n : Nat} {xs : List Value} (h : w.ownsRow base e size v n xs) (hb : base' ≤ base) : w.ownsRow base' e size v n xs := by
  refine ⟨h.1, ?_⟩
  rcases h.2 with h' | ⟨g, c, cur, h1, h2, h3⟩
  · exact Or.inl h'
  · exact Or.inr ⟨g, c, cur, h1, Nat.le_trans hb h2, h3⟩
theorem own_slice {w : World} {base : Nat} {e : TypeId} {size : Nat} {v : Value} {n : Nat} {xs : List Value} (h : w.ownsRow base e size v n xs) : ∃ a c, v = .slice a n c := by
  rcases h.2 with ⟨rfl, rfl⟩ | ⟨g, c, cur, rfl, _⟩
  · exact ⟨none, 0, rfl⟩
  · exact ⟨_, c, rfl⟩
theorem own_cell {w : World} {base : Nat} {a : Option Addr} {n cap : Nat} {ys : List Int} (h : w.ownsRow base 3 1 (.slice a n cap) n (cellsI ys)) (hl : ys.length = n) {j : Nat} (hj : j < n) : ∃ g, a = some ⟨g, 0, none⟩ ∧ g < w.heap.size ∧ base ≤ g ∧ w.cell? ⟨g, j, none⟩ = some (.int .i64 (ys.getD j 0)) := by
  rcases h.2 with ⟨h1, h2⟩ | ⟨g, c, cur, h1, h2, h3, _⟩
  · omega
  · injection h1 with ha hb hc
    subst ha
    have := World.ownsRow.cellAt h j (by omega)
    refine ⟨g, rfl, lt_of_block h3, h2, ?_⟩
    rw [cellsI_getD ys j (by omega)] at this
    exact this
theorem getD_snoc {q : List Nat} {v i : Nat} (hi : i < q.length) : (q ++ [v]).getD i 0 = q.getD i 0 := by simp [List.getD, List.getElem?_append_left hi]
theorem info_parts {P : Program} {e : TypeId} {z : Value} {s b : Nat} (h : (P.info? e).map (fun i => (i.zero, i.size, i.bytes)) = some (some z, s, b)) : ∃ i, P.info? e = some i ∧ i.zero = some z ∧ i.size = s ∧ i.bytes = b := by
  cases hi : P.info? e with
  | none => rw [hi] at h; simp at h
  | some i => rw [hi] at h; simp at h; exact ⟨i, rfl, h.1, h.2.1, h.2.2⟩
end Go.Proofs.YtpmjbeiclmllmaaGreat
