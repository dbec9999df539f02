/-
  Tables of numbers in memory; contracts of near.filled and near.unreached, and of dist.Add. Contracts of the method add of a list, and of what goes through arcs and tells it members. Contracts of graph.around, and of graph.Out and graph.In. Contracts of the book's SameInts and SameGraph, at the same ones: true. Lists of numbers that can be read; the chapter's first example holds. Arcs as cells of a row of our own; contracts of slices.Clone (of arcs) and graph.copied. Contract of graph.Reverse.
-/
import Derived.Test.YtpmjbeiclmllmaaGreatNBase
import Derived.Laws.AppendOwnNone
import Derived.Deep.RegionWith
import Derived.Lib.SliceRun
import Derived.BigRegion
import Derived.Laws.StructEq
import Derived.Test.YtpmjbeiclmllmaaGreatNSMath
import Derived.Test.YtpmjbeiclmllmaaGreatNHLower2
import Derived.Deep.LoopGhost
namespace Go.Proofs.YtpmjbeiclmllmaaGreat.N5
open Go.RowKit
theorem info3 : (Tryz.prog.info? 3).map (fun i => (i.zero, i.size, i.bytes)) = some (some (.int .i64 0), 1, 8) := by kernel_rfl
/-- Numbers as cells. -/
def cellsI (l : List Int) : List Value := l.map (Value.int .i64)
theorem cellsI_len (l : List Int) : (cellsI l).length = l.length := by unfold cellsI; simp
theorem cellsI_snoc (l : List Int) (x : Int) : cellsI l ++ [.int .i64 x] = cellsI (l ++ [x]) := by unfold cellsI; simp
theorem cellsI_getD (xs : List Int) (k : Nat) (h : k < xs.length) : (cellsI xs)[k]? = some (.int .i64 (xs.getD k 0)) := by
  unfold cellsI
  simp [List.getD, List.getElem?_eq_getElem h]
theorem cellsI_set (xs : List Int) (k : Nat) (x : Int) : (cellsI xs).set k (.int .i64 x) = cellsI (xs.set k x) := by
  unfold cellsI
  rw [List.map_set]
theorem one_i64 (x : Int) : ∀ u ∈ [Value.int .i64 x], u.oneCell' = true := by intro u hu; simp at hu; subst hu; rfl
theorem own_shape {w : World} {base : Nat} {e : TypeId} {size : Nat} {v : Value} {n : Nat} {xs : List Value} (h : w.ownsRow base e size v n xs) (hn : v ≠ .slice none 0 0) : ∃ g c, v = .slice (some ⟨g, 0, none⟩) n c ∧ base ≤ g ∧ n ≤ c ∧ g < w.heap.size ∧ c ≤ 9223372036854775807 := by
  rcases h.2 with ⟨h', _⟩ | ⟨g, c, cur, h', hb, hg, hnc, hm, _⟩
  · exact absurd h' hn
  · exact ⟨g, c, h', hb, hnc, lt_of_block hg, hm⟩
/-- What is kept while it is filled: all below the variable, and what is of another type. -/
def Kp (m : Nat) (w w' : World) : Prop := Below m w w' ∧ ∀ k o, w.heap[k]? = some o → k ≠ m → (∀ cur, o ≠ .cells cur 3 (0, 0)) → w'.heap[k]? = some o
theorem Kp.refl (m : Nat) (w : World) : Kp m w w := ⟨Below.refl _ _, fun _ _ h _ _ => h⟩
theorem Kp.trans {m : Nat} {a b c : World} (h : Kp m a b) (k : Kp m b c) : Kp m a c := ⟨h.1.trans k.1, fun i o ho hm ht => k.2 i o (h.2 i o ho hm ht) hm ht⟩
theorem Kp.of {m : Nat} {a b : World} (h : Below a.heap.size a b) (hm : m ≤ a.heap.size) : Kp m a b := ⟨h.mono hm, fun k _ ho _ _ => (h.block k (lt_of_block ho)).trans ho⟩
theorem Kp.alloc {m : Nat} {a b : World} (h : Kp m a b) (hm : m ≤ b.heap.size) (o : Obj) : Kp m a (b.alloc o) := h.trans (Kp.of ((Below.refl _ _).alloc (Nat.le_refl _) o) hm)
/-- The places that are hit, rising. -/
def hits (q : Nat → Bool) : Nat → List Int
  | 0 => []
  | k + 1 => if q k then hits q k ++ [(k : Int)] else hits q k
theorem hits_t {q : Nat → Bool} {k : Nat} (h : q k = true) : hits q (k + 1) = hits q k ++ [(k : Int)] := by rw [hits, if_pos h]
theorem hits_f {q : Nat → Bool} {k : Nat} (h : q k = false) : hits q (k + 1) = hits q k := by rw [hits, if_neg (by simp [h])]
theorem hits_len (q : Nat → Bool) (k : Nat) : (hits q k).length ≤ k := by
  induction k with
  | zero => simp [hits]
  | succ k ih =>
    unfold hits
    split
    · simp; omega
    · omega
/-- The arcs of a slice lie so in memory, below B. -/
def ArcsB (B : Nat) (w : World) (a : Option Addr) (l : List A) : Prop :=
  l = [] ∨ ∃ b o, a = some ⟨b, o, none⟩ ∧ b < B ∧ ∀ j, j < l.length → (l.getD j A.zero).at w b (o + j * 3)
theorem A.at.onB {x : A} {w w' : World} {b o B : Nat} (h : x.at w b o) (hl : b < B) (hb : Below B w w') : x.at w' b o :=
  ⟨(hb.cell hl).trans h.1, (hb.cell (p := ⟨b, o + 1, none⟩) hl).trans h.2.1, (hb.cell (p := ⟨b, o + 2, none⟩) hl).trans h.2.2⟩
theorem ArcsB.on {B : Nat} {w w' : World} {a : Option Addr} {l : List A} (h : ArcsB B w a l) (hb : Below B w w') : ArcsB B w' a l := by
  rcases h with h | ⟨b, o, rfl, hl, hc⟩
  · exact Or.inl h
  · exact Or.inr ⟨b, o, rfl, hl, fun j hj => (hc j hj).onB hl hb⟩
theorem ArcsB.up {B B' : Nat} {w : World} {a : Option Addr} {l : List A} (h : ArcsB B w a l) (hb : B ≤ B') : ArcsB B' w a l := by
  rcases h with h | ⟨b, o, rfl, hl, hc⟩
  · exact Or.inl h
  · exact Or.inr ⟨b, o, rfl, Nat.lt_of_lt_of_le hl hb, hc⟩
theorem Arcs.b {w : World} {a : Option Addr} {l : List A} (h : Arcs w a l) : ArcsB w.heap.size w a l := h
theorem ArcsB.a {B : Nat} {w : World} {a : Option Addr} {l : List A} (h : ArcsB B w a l) (hb : B ≤ w.heap.size) : Arcs w a l := h.up hb
theorem ArcsB.get {B : Nat} {w : World} {a : Option Addr} {l : List A} (h : ArcsB B w a l) : ∃ b o, 0 < l.length → a = some ⟨b, o, none⟩ ∧ b < B ∧ ∀ j, j < l.length → (l.getD j A.zero).at w b (o + j * 3) := by
  rcases h with rfl | ⟨b, o, h⟩
  · exact ⟨0, 0, fun h => absurd h (by simp)⟩
  · exact ⟨b, o, fun _ => h⟩
theorem not3 {t : TypeId} {c : Array Value} (h : t ≠ 3) : ∀ cur, Obj.cells c t (0, 0) ≠ .cells cur 3 (0, 0) := by
  intro cur e
  injection e with e1 e2 e3
  exact h e2
end Go.Proofs.YtpmjbeiclmllmaaGreat.N5
namespace Go.Proofs.YtpmjbeiclmllmaaGreat.N5
open Go.RowKit
theorem own_slice {w : World} {base : Nat} {e : TypeId} {size : Nat} {v : Value} {n : Nat} {xs : List Value} (h : w.ownsRow base e size v n xs) : ∃ a c, v = .slice a n c := by
  rcases h.2 with ⟨rfl, rfl⟩ | ⟨g, c, cur, rfl, _⟩
  · exact ⟨none, 0, rfl⟩
  · exact ⟨_, c, rfl⟩
theorem own_base {w : World} {base base' : Nat} {e : TypeId} {size : Nat} {v : Value} {n : Nat} {xs : List Value} (h : w.ownsRow base e size v n xs) (hb : base' ≤ base) : w.ownsRow base' e size v n xs := by
  refine ⟨h.1, ?_⟩
  rcases h.2 with h' | ⟨g, c, cur, h1, h2, h3⟩
  · exact Or.inl h'
  · exact Or.inr ⟨g, c, cur, h1, Nat.le_trans hb h2, h3⟩
end Go.Proofs.YtpmjbeiclmllmaaGreat.N5
namespace Go.Proofs.YtpmjbeiclmllmaaGreat.N5
open Go.RowKit
/-- Numbers of a slice lie so in memory. -/
def Ints (w : World) (a : Option Addr) (xs : List Int) : Prop :=
  xs = [] ∨ ∃ b o, a = some ⟨b, o, none⟩ ∧ b < w.heap.size ∧ ∀ j, j < xs.length → w.cell? ⟨b, o + j, none⟩ = some (.int .i64 (xs.getD j 0))
theorem Ints.on {w w' : World} {a : Option Addr} {xs : List Int} (h : Ints w a xs) (hb : Below w.heap.size w w') : Ints w' a xs := by
  rcases h with h | ⟨b, o, rfl, hl, hc⟩
  · exact Or.inl h
  · exact Or.inr ⟨b, o, rfl, Nat.lt_of_lt_of_le hl hb.size, fun j hj => (hb.cell (p := ⟨b, o + j, none⟩) hl).trans (hc j hj)⟩
theorem ints_own {w : World} {B : Nat} {a : Option Addr} {c : Nat} {xs : List Int} (h : w.ownsRow B 3 1 (.slice a xs.length c) xs.length (cellsI xs)) : Ints w a xs := by
  by_cases h0 : xs = []
  · exact Or.inl h0
  · rcases h.2 with ⟨_, h'⟩ | ⟨g, c', cur, h', hb, hg, hnc, hm, _⟩
    · exact absurd (List.eq_nil_of_length_eq_zero h') h0
    · injection h' with e1 e2 e3
      subst e1
      refine Or.inr ⟨g, 0, rfl, lt_of_block hg, fun j hj => ?_⟩
      rw [Nat.zero_add, World.ownsRow.cellAt h j (by omega), cellsI_getD xs j hj]
theorem Ints.get {w : World} {a : Option Addr} {xs : List Int} (h : Ints w a xs) : ∃ b o, 0 < xs.length → a = some ⟨b, o, none⟩ ∧ b < w.heap.size ∧ ∀ j, j < xs.length → w.cell? ⟨b, o + j, none⟩ = some (.int .i64 (xs.getD j 0)) := by
  rcases h with rfl | ⟨b, o, h⟩
  · exact ⟨0, 0, fun h => absurd h (by simp)⟩
  · exact ⟨b, o, fun _ => h⟩
/-- The example's arcs. -/
def exA : List A := [⟨0, 1, 5⟩, ⟨1, 2, 7⟩, ⟨0, 2, 20⟩]
theorem ex_chk : chkE 3 exA = 0 := by decide
theorem exA_at (w : World) : Arcs (w.alloc (.cells #[.int .i64 0, .int .i64 1, .int .u32 5, .int .i64 1, .int .i64 2, .int .u32 7, .int .i64 0, .int .i64 2, .int .u32 20] 68)) (some ⟨w.heap.size, 0, none⟩) exA := by
  refine Or.inr ⟨w.heap.size, 0, rfl, by simp, fun j hj => ?_⟩
  match j, hj with
  | 0, _ => exact ⟨by simp [exA, A.zero], by simp [exA, A.zero], by simp [exA, A.zero]⟩
  | 1, _ => exact ⟨by simp [exA, A.zero], by simp [exA, A.zero], by simp [exA, A.zero]⟩
  | 2, _ => exact ⟨by simp [exA, A.zero], by simp [exA, A.zero], by simp [exA, A.zero]⟩
end Go.Proofs.YtpmjbeiclmllmaaGreat.N5
namespace Go.Proofs.YtpmjbeiclmllmaaGreat.N5
open Go.RowKit
theorem info53 : (Tryz.prog.info? 68).map (fun i => (i.zero, i.size, i.bytes)) = some (some (.agg #[.int .i64 0, .int .i64 0, .int .u32 0]), 3, 24) := by kernel_rfl
/-- Arcs as cells. -/
def cellsA : List A → List Value
  | [] => []
  | x :: r => .int .i64 x.f :: .int .i64 x.t :: .int .u32 x.w :: cellsA r
theorem cellsA_len : ∀ l : List A, (cellsA l).length = l.length * 3
  | [] => rfl
  | x :: r => by simp only [cellsA, List.length_cons, cellsA_len r]; omega
theorem cellsA_append : ∀ l m : List A, cellsA (l ++ m) = cellsA l ++ cellsA m
  | [], _ => rfl
  | x :: r, m => by simp only [cellsA, List.cons_append, cellsA_append r m]
theorem cellsA_at : ∀ (l : List A) (j : Nat), j < l.length → (cellsA l)[j * 3]? = some (.int .i64 (l.getD j A.zero).f) ∧ (cellsA l)[j * 3 + 1]? = some (.int .i64 (l.getD j A.zero).t) ∧ (cellsA l)[j * 3 + 2]? = some (.int .u32 (l.getD j A.zero).w)
  | [], _, h => absurd h (by simp)
  | x :: r, 0, _ => ⟨rfl, rfl, rfl⟩
  | x :: r, j + 1, h => by
    have := cellsA_at r j (by simpa using h)
    rw [show (j + 1) * 3 = j * 3 + 3 by omega]
    exact this
theorem cellsA_one : ∀ (l : List A), ∀ u ∈ cellsA l, u.oneCell' = true
  | [], u, h => by cases h
  | x :: r, u, h => by
    simp only [cellsA, List.mem_cons] at h
    rcases h with rfl | rfl | rfl | h
    · rfl
    · rfl
    · rfl
    · exact cellsA_one r u h
theorem cellsA_set : ∀ (l : List A) (j : Nat) (v : Int), j < l.length →
    (cellsA l).set (j * 3) (.int .i64 v) = cellsA (l.set j ⟨v, (l.getD j A.zero).t, (l.getD j A.zero).w⟩) ∧
    (cellsA l).set (j * 3 + 1) (.int .i64 v) = cellsA (l.set j ⟨(l.getD j A.zero).f, v, (l.getD j A.zero).w⟩) ∧
    (cellsA l).set (j * 3 + 2) (.int .u32 v) = cellsA (l.set j ⟨(l.getD j A.zero).f, (l.getD j A.zero).t, v⟩)
  | [], _, _, h => absurd h (by simp)
  | x :: r, 0, v, _ => ⟨rfl, rfl, rfl⟩
  | x :: r, j + 1, v, h => by
    have := cellsA_set r j v (by simpa using h)
    rw [show (j + 1) * 3 = j * 3 + 3 by omega]
    exact ⟨congrArg (fun t => Value.int .i64 x.f :: Value.int .i64 x.t :: Value.int .u32 x.w :: t) this.1, congrArg (fun t => Value.int .i64 x.f :: Value.int .i64 x.t :: Value.int .u32 x.w :: t) this.2.1, congrArg (fun t => Value.int .i64 x.f :: Value.int .i64 x.t :: Value.int .u32 x.w :: t) this.2.2⟩
theorem cells_of_at {w : World} {b o : Nat} : ∀ (l : List A) (p : Nat), (∀ j, j < l.length → (l.getD j A.zero).at w b (o + (p + j) * 3)) → ∀ i u, (cellsA l)[i]? = some u → w.cell? ⟨b, o + p * 3 + i, none⟩ = some u
  | [], _, _, i, u, h => by simp [cellsA] at h
  | x :: r, p, ha, i, u, h => by
    have h0 := ha 0 (by simp)
    simp only [Nat.add_zero] at h0
    match i, h with
    | 0, h => simp [cellsA] at h; subst h; exact h0.1
    | 1, h => simp [cellsA] at h; subst h; exact h0.2.1
    | 2, h => simp [cellsA] at h; subst h; exact h0.2.2
    | i + 3, h =>
      have := cells_of_at r (p + 1) (fun j hj => by have := ha (j + 1) (by simpa using hj); rw [show p + (j + 1) = p + 1 + j by omega] at this; exact this) i u (by simpa [cellsA] using h)
      rw [show o + p * 3 + (i + 3) = o + (p + 1) * 3 + i by omega]
      exact this
/-- A row of arcs of our own. -/
def OwnA (w : World) (B : Nat) (a : Option Addr) (c : Nat) (l : List A) : Prop := w.ownsRow B 68 3 (.slice a l.length c) l.length (cellsA l)
theorem OwnA.some {w : World} {B : Nat} {a : Option Addr} {c : Nat} {l : List A} (h : OwnA w B a c l) (h0 : 0 < l.length) : ∃ g, a = some ⟨g, 0, none⟩ ∧ B ≤ g ∧ g < w.heap.size := by
  rcases h.2 with ⟨_, h'⟩ | ⟨g, c', cur, h', hb, hg, _⟩
  · omega
  · injection h' with e1 e2 e3
    exact ⟨g, e1, hb, lt_of_block hg⟩
theorem OwnA.at {w : World} {B g c : Nat} {l : List A} (h : OwnA w B (.some ⟨g, 0, none⟩) c l) (j : Nat) (hj : j < l.length) : (l.getD j A.zero).at w g (j * 3) := by
  obtain ⟨h1, h2, h3⟩ := cellsA_at l j hj
  exact ⟨(World.ownsRow.cellAt h (j * 3) (by omega)).trans h1, (World.ownsRow.cellAt h (j * 3 + 1) (by omega)).trans h2, (World.ownsRow.cellAt h (j * 3 + 2) (by omega)).trans h3⟩
theorem OwnA.arcs {w : World} {B : Nat} {a : Option Addr} {c : Nat} {l : List A} (h : OwnA w B a c l) : Arcs w a l := by
  by_cases h0 : 0 < l.length
  · obtain ⟨g, rfl, _, hg⟩ := h.some h0
    exact Or.inr ⟨g, 0, rfl, hg, fun j hj => by rw [Nat.zero_add]; exact h.at j hj⟩
  · exact Or.inl (List.eq_nil_of_length_eq_zero (by omega))
theorem OwnA.alloc {w : World} {B : Nat} {a : Option Addr} {c : Nat} {l : List A} (h : OwnA w B a c l) (o : Obj) : OwnA (w.alloc o) B a c l := World.ownsRow.alloc h o
theorem OwnA.on {w w' : World} {B : Nat} {a : Option Addr} {c : Nat} {l : List A} (h : OwnA w B a c l) (hb : Below w.heap.size w w') : OwnA w' B a c l := by
  refine ⟨h.1, ?_⟩
  rcases h.2 with h' | ⟨g, c', cur, h1, h2, h3, h4⟩
  · exact Or.inl h'
  · exact Or.inr ⟨g, c', cur, h1, h2, (hb.block g (lt_of_block h3)).trans h3, h4⟩
theorem OwnA.base {w : World} {B B' : Nat} {a : Option Addr} {c : Nat} {l : List A} (h : OwnA w B a c l) (hb : B' ≤ B) : OwnA w B' a c l := own_base h hb
theorem OwnA.nil (w : World) (B : Nat) : OwnA w B none 0 [] := World.ownsRow_nil _ _ _ _
theorem clone_news {w : World} {ad : Addr} {l : List A} (h : Arcs w (some ad) l) (o : Obj) : ∀ j u, (cellsA l)[j]? = some u → (w.alloc o).cell? (ad.add j) = some u := by
  intro j u hu
  rcases h with rfl | ⟨b, q, he, hb, hc⟩
  · simp [cellsA] at hu
  · cases he
    have := cells_of_at (o := q) l 0 (fun j hj => by rw [Nat.zero_add]; exact hc j hj) j u hu
    rw [Go.WideShapes.add_plain, World.cell?_alloc_past _ _ _ hb]
    simpa using this
theorem eql_nil (w : World) (a : Option Addr) (n c : Nat) : (binOp .eql 22 (.slice a n c) (.slice none 0 0)).run Tryz.prog w = .ok (.bool a.isNone) w := Lib.run_eql_slice_nil w 22 68 a n c 0 0 Tryz.underlying22
end Go.Proofs.YtpmjbeiclmllmaaGreat.N5
namespace Go.Proofs.YtpmjbeiclmllmaaGreat.N5
open Go.RowKit
/-- An arc, turned about. -/
def A.turn (x : A) : A := ⟨x.t, x.f, x.w⟩
def turned (l : List A) : List A := l.map A.turn
theorem turned_len (l : List A) : (turned l).length = l.length := by unfold turned; simp
theorem turned_getD (l : List A) (j : Nat) (h : j < l.length) : (turned l).getD j A.zero = (l.getD j A.zero).turn := by
  unfold turned; simp [List.getD, List.getElem?_eq_getElem h]
theorem turned_ext {l X : List A} (hx : X.length = l.length) (h : ∀ j, j < l.length → X.getD j A.zero = (l.getD j A.zero).turn) : X = turned l := by
  apply List.ext_getElem (by rw [turned_len]; exact hx)
  intro j h1 h2
  have e1 : X.getD j A.zero = X[j] := by simp [List.getD, List.getElem?_eq_getElem h1]
  have e2 : (turned l).getD j A.zero = (turned l)[j] := by simp [List.getD, List.getElem?_eq_getElem h2]
  rw [← e1, ← e2, turned_getD l j (by omega), h j (by omega)]
theorem getDA_set (L : List A) (k j : Nat) (x : A) (hk : k < L.length) : (L.set k x).getD j A.zero = if j = k then x else L.getD j A.zero := by
  by_cases h : j = k
  · subst h; simp [List.getD, hk]
  · rw [if_neg h]; simp [List.getD, Ne.symm h]
theorem OwnA.free {w : World} {B g c : Nat} {l : List A} (h : OwnA w B (.some ⟨g, 0, none⟩) c l) (k : Nat) : w.frozen? ⟨g, k, none⟩ = false := World.ownsRow.frozenAt h k
theorem OwnA.set0 {w : World} {B g c : Nat} {l : List A} (h : OwnA w B (.some ⟨g, 0, none⟩) c l) (j : Nat) (v : Int) (hj : j < l.length) : OwnA (w.setCell ⟨g, j * 3, none⟩ (.int .i64 v)) B (.some ⟨g, 0, none⟩) c (l.set j ⟨v, (l.getD j A.zero).t, (l.getD j A.zero).w⟩) := by
  have := (World.ownsRow.stored h (j * 3) (.int .i64 v)).1
  rw [(cellsA_set l j v hj).1] at this
  unfold OwnA
  rw [List.length_set]; exact this
theorem OwnA.set1 {w : World} {B g c : Nat} {l : List A} (h : OwnA w B (.some ⟨g, 0, none⟩) c l) (j : Nat) (v : Int) (hj : j < l.length) : OwnA (w.setCell ⟨g, j * 3 + 1, none⟩ (.int .i64 v)) B (.some ⟨g, 0, none⟩) c (l.set j ⟨(l.getD j A.zero).f, v, (l.getD j A.zero).w⟩) := by
  have := (World.ownsRow.stored h (j * 3 + 1) (.int .i64 v)).1
  rw [(cellsA_set l j v hj).2.1] at this
  unfold OwnA
  rw [List.length_set]; exact this
theorem OwnA.set2 {w : World} {B g c : Nat} {l : List A} (h : OwnA w B (.some ⟨g, 0, none⟩) c l) (j : Nat) (v : Int) (hj : j < l.length) : OwnA (w.setCell ⟨g, j * 3 + 2, none⟩ (.int .u32 v)) B (.some ⟨g, 0, none⟩) c (l.set j ⟨(l.getD j A.zero).f, (l.getD j A.zero).t, v⟩) := by
  have := (World.ownsRow.stored h (j * 3 + 2) (.int .u32 v)).1
  rw [(cellsA_set l j v hj).2.2] at this
  unfold OwnA
  rw [List.length_set]; exact this
theorem OwnA.turn {w : World} {B g c : Nat} {X : List A} (h : OwnA w B (.some ⟨g, 0, none⟩) c X) (j : Nat) {x : A} (hj : j < X.length) (hx : X.getD j A.zero = x) : OwnA ((w.setCell ⟨g, j * 3, none⟩ (.int .i64 x.t)).setCell ⟨g, j * 3 + 1, none⟩ (.int .i64 x.f)) B (.some ⟨g, 0, none⟩) c (X.set j x.turn) := by
  have h1 := (h.set0 j x.t hj).set1 j x.f (by rw [List.length_set]; exact hj)
  rw [getDA_set _ _ _ _ hj, if_pos rfl, hx, List.set_set] at h1
  exact h1
/-- A graph that a call made. -/
def MadeG (w w' : World) (e : Ending) (N : Int) (l : List A) (E : Int) : Prop :=
  ∃ a c, e = .returned (.tuple #[.agg #[.int .i64 N, .slice a l.length c], .int .i64 E]) ∧ OwnA w' w.heap.size a c l ∧ (a = none → l = [] ∧ c = 0) ∧ Below w.heap.size w w'
end Go.Proofs.YtpmjbeiclmllmaaGreat.N5
namespace Go.Proofs.YtpmjbeiclmllmaaGreat.N5
open Go.RowKit
theorem below_drewN (B : Nat) (w : World) (n : Nat) : Below B w (w.drewN n) := ⟨rfl, rfl, rfl, Nat.le_refl _, fun _ _ => rfl⟩
set_option maxRecDepth 100000 in
set_option maxHeartbeats 400000 in
theorem sameInts_any (a a' : Option Addr) (cap cap' : Nat) (xs : List Int) (w : World) (hlen : xs.length ≤ 9223372036854775807) (hr : Ints w a xs) (hr' : Ints w a' xs) :
    Calls Tryz.prog 41 #[.slice a xs.length cap, .slice a' xs.length cap'] w fun e w' => e = .returned (.bool true) ∧ Below w.heap.size w w' := by
  obtain ⟨b, o, hab⟩ := hr.get
  obtain ⟨b', o', hab'⟩ := hr'.get
  go_enter Tryz.func41, Tryz.ntmps41
  go_wp2_with fail
  go_loopw [5] (fun i wr => ∃ k n : Nat, k ≤ xs.length ∧ i = .int .i64 k ∧ wr = w.drewN n) (fun i _ => xs.length - (intOf i).toNat)
  case atStart => exact ⟨0, 0, Nat.zero_le _, rfl, rfl⟩
  case round =>
    obtain ⟨k, n, hk, rfl, rfl⟩ := hrel
    by_cases hlt : k < xs.length
    · obtain ⟨rfl, _, hc⟩ := hab (by omega)
      obtain ⟨rfl, _, hc'⟩ := hab' (by omega)
      have c1 := hc k hlt
      have c2 := hc' k hlt
      clear hc hc'
      generalize xs.getD k 0 = x at *
      go_wp2_with fail
      go_quiet (fail)
      go_wp2_with fail
      exact ⟨⟨k + 1, _, by omega, by go_num, rfl⟩, by simp [intOf]; omega⟩
    · go_wp2_with fail
      go_ret
      exact ⟨rfl, below_drewN _ _ _⟩
set_option maxRecDepth 100000 in
set_option maxHeartbeats 800000 in
theorem sameGraph_any (N : Int) (a a' : Option Addr) (cap cap' : Nat) (l : List A) (w : World) (hlen : l.length ≤ 9223372036854775807) (hr : Arcs w a l) (hr' : Arcs w a' l) :
    Calls Tryz.prog 40 #[.agg #[.int .i64 N, .slice a l.length cap], .agg #[.int .i64 N, .slice a' l.length cap']] w fun e w' => e = .returned (.bool true) ∧ Below w.heap.size w w' := by
  have hb0 : Below w.heap.size w ((w.alloc (.cells #[.int .i64 N, .slice a l.length cap] 24)).alloc (.cells #[.int .i64 N, .slice a' l.length cap'] 24)) := ((Below.refl _ _).alloc (Nat.le_refl _) _).alloc (by simp) _
  have hg : ((w.alloc (.cells #[.int .i64 N, .slice a l.length cap] 24)).alloc (.cells #[.int .i64 N, .slice a' l.length cap'] 24)).heap[w.heap.size]? = some (.cells #[.int .i64 N, .slice a l.length cap] 24) := (Below.heap_alloc _ _ _ (by simp)).trans (heap_top w _)
  have h1 := heap_top (w.alloc (.cells #[.int .i64 N, .slice a l.length cap] 24)) (.cells #[.int .i64 N, .slice a' l.length cap'] 24)
  rw [show (w.alloc (.cells #[.int .i64 N, .slice a l.length cap] 24)).heap.size = w.heap.size + 1 by simp] at h1
  generalize hW : (w.alloc (.cells #[.int .i64 N, .slice a l.length cap] 24)).alloc (.cells #[.int .i64 N, .slice a' l.length cap'] 24) = W at *
  obtain ⟨⟨g0, g1⟩, gf0, gf1⟩ := two_cells hg
  obtain ⟨⟨k0, k1⟩, kf0, kf1⟩ := two_cells h1
  have hrW := hr.on hb0
  have hrW' := hr'.on hb0
  obtain ⟨b, o, hab⟩ := hrW.b.get
  obtain ⟨b', o', hab'⟩ := hrW'.b.get
  go_enter Tryz.func40, Tryz.ntmps40
  go_wp2_with fail
  go_loopw [5] (fun i wr => ∃ k n : Nat, k ≤ l.length ∧ i = .int .i64 k ∧ wr = W.drewN n) (fun i _ => l.length - (intOf i).toNat)
  case atStart => exact ⟨0, 0, Nat.zero_le _, rfl, rfl⟩
  case round =>
    obtain ⟨k, n, hk, rfl, rfl⟩ := hrel
    by_cases hlt : k < l.length
    · obtain ⟨rfl, _, hc⟩ := hab (by omega)
      obtain ⟨rfl, _, hc'⟩ := hab' (by omega)
      obtain ⟨c0, c1, c2⟩ := hc k hlt
      obtain ⟨d0, d1, d2⟩ := hc' k hlt
      clear hc hc'
      generalize l.getD k A.zero = x at *
      go_wp2_with fail
      go_quiet (fail)
      go_wp2_with fail
      exact ⟨⟨k + 1, _, by omega, by go_num, rfl⟩, by simp [intOf]; omega⟩
    · go_wp2_with fail
      go_ret
      exact ⟨rfl, hb0.trans (below_drewN _ _ _)⟩
end Go.Proofs.YtpmjbeiclmllmaaGreat.N5
namespace Go.Proofs.YtpmjbeiclmllmaaGreat.N5
open Go.RowKit
/-- A table of n numbers lies in block b. -/
def Tb (w : World) (b n : Nat) (ty : TypeId) (K : IntKind) (F : Nat → Int) : Prop := w.heap[b]? = some (.cells ((List.range n).map (fun v => Value.int K (F v))).toArray ty (0, 0))
theorem Tb.lt {w : World} {b n : Nat} {ty : TypeId} {K : IntKind} {F : Nat → Int} (h : Tb w b n ty K F) : b < w.heap.size := lt_of_block h
theorem Tb.same {w w' : World} {b n : Nat} {ty : TypeId} {K : IntKind} {F : Nat → Int} (h : Tb w b n ty K F) (hs : w'.heap[b]? = w.heap[b]?) : Tb w' b n ty K F := hs.trans h
theorem Tb.cell {w : World} {b n : Nat} {ty : TypeId} {K : IntKind} {F : Nat → Int} (h : Tb w b n ty K F) {v : Nat} (hv : v < n) : w.cell? ⟨b, v, none⟩ = some (.int K (F v)) := by
  unfold Tb at h
  simp [World.cell?, h, hv]
theorem Tb.free {w : World} {b n : Nat} {ty : TypeId} {K : IntKind} {F : Nat → Int} (h : Tb w b n ty K F) (v : Nat) : w.frozen? ⟨b, v, none⟩ = false := by
  unfold Tb at h
  simp [World.frozen?, h]
theorem Tb.congr {w : World} {b n : Nat} {ty : TypeId} {K : IntKind} {F G : Nat → Int} (h : Tb w b n ty K F) (e : ∀ v, v < n → F v = G v) : Tb w b n ty K G := by
  unfold Tb at *
  rw [h]
  congr 3
  apply List.map_congr_left
  intro v hv
  rw [e v (by simpa using hv)]
theorem tab_set (n : Nat) (K : IntKind) (F : Nat → Int) (v : Nat) (x : Int) : ((List.range n).map (fun u => Value.int K (F u))).toArray.setIfInBounds v (.int K x) = ((List.range n).map (fun u => Value.int K (updI F v x u))).toArray := by
  apply Array.ext'
  simp only [Array.toList_setIfInBounds]
  apply List.ext_getElem?
  intro i
  rw [List.getElem?_set]
  by_cases e : v = i
  · subst e
    by_cases h : v < n
    · simp [h, updI_self]
    · simp [h]
  · rw [if_neg e]
    by_cases h : i < n
    · simp [h, updI_ne F x (fun h : i = v => e h.symm)]
    · simp [h]
theorem Tb.set {w : World} {b n : Nat} {ty : TypeId} {K : IntKind} {F : Nat → Int} (h : Tb w b n ty K F) (v : Nat) (x : Int) : Tb (w.setCell ⟨b, v, none⟩ (.int K x)) b n ty K (updI F v x) := by
  unfold Tb
  rw [heap_setCell_same w b v _ _ _ h, tab_set]
theorem row_made {w : World} {base g n : Nat} {e : TypeId} {xs : List Value} (h : w.ownsRow base e 1 (.slice (some ⟨g, 0, none⟩) n n) n xs) : w.heap[g]? = some (.cells xs.toArray e (0, 0)) := by
  rcases h.2 with ⟨h', _⟩ | ⟨g', c', cur, h', _, h3, _, _, h6, h7⟩
  · cases h'
  · cases h'
    rw [h3, ← h7]
    rw [List.take_of_length_le (by simp; omega)]
theorem info34 : (Tryz.prog.info? 47).map (fun i => (i.zero, i.size, i.bytes)) = some (some (.int .u64 0), 1, 8) := by kernel_rfl
theorem made_u64 (n : Nat) : (madeCells (Value.int .u64 0).cells (n * 1)).toList = (List.range n).map (fun _ => Value.int .u64 0) := by
  show (madeCells #[Value.int .u64 0] (n * 1)).toList = _
  rw [toList_madeCells_one, Nat.mul_one]
  apply List.ext_getElem
  · simp
  · intro i h1 h2
    simp
theorem made_int (n : Nat) : (madeCells (Value.int .i64 0).cells (n * 1)).toList = (List.range n).map (fun _ => Value.int .i64 0) := by
  show (madeCells #[Value.int .i64 0] (n * 1)).toList = _
  rw [toList_madeCells_one, Nat.mul_one]
  apply List.ext_getElem
  · simp
  · intro i h1 h2
    simp
set_option maxRecDepth 100000 in
set_option maxHeartbeats 800000 in
theorem filledD_any (n : Nat) (hn : n ≤ 8192) (c : Int) (w : World) :
    Calls Tryz.prog 122 #[.int .i64 n, .int .u64 c] w fun e w' => ∃ b, e = .returned (.slice (some ⟨b, 0, none⟩) n n) ∧ Tb w' b n 47 .u64 (fun _ => c) ∧ w.heap.size ≤ b ∧ Below w.heap.size w w' := by
  obtain ⟨i0, hi, hz0, hz1, hz2⟩ := info_parts info34
  have HM := Lib.hid (made_u64 n)
  go_enter Tryz.func122, Tryz.ntmps122
  go_wp2_with (at_make; refine wpList_make_full _ rfl (.tmp 7) (.tmp 7) 37 rfl 0 47 i0 (.int .u64 0) 1 Tryz.underlying37 hi hz0 hz1 .i64 .i64 n n n rfl rfl rfl rfl (by rw [hz2]; omega) (by unfold maxLen; omega) (Nat.zero_le _) ?_; intro w1 hown1 hgrow1; rw [HM.out] at hown1)
  have hrow : Tb w1 w.heap.size n 47 .u64 (fun _ => 0) := row_made hown1
  have hb1 : Below w.heap.size w w1 := (Below.refl _ _).grown hgrow1 (Nat.le_refl _) (by intro k hk; cases hk)
  clear hown1 hgrow1
  go_wp2_with fail
  go_loopw [11] (fun i wr => ∃ k : Nat, k ≤ n ∧ i = .int .i64 k ∧ Tb wr w.heap.size n 47 .u64 (fun v => if v < k then c else 0) ∧ Below w.heap.size w wr) (fun i _ => n - (intOf i).toNat)
  case atStart => exact ⟨0, Nat.zero_le _, rfl, hrow.congr (fun v _ => by simp), hb1⟩
  case round =>
    obtain ⟨k, hk, rfl, ht, hb⟩ := hrel
    by_cases hlt : k < n
    · have c0 := ht.cell hlt
      have f0 := ht.free k
      have hlt' : (k : Int) < n := by omega
      go_wp2_with fail
      refine ⟨⟨k + 1, by omega, by go_num, (ht.set k c).congr (fun v _ => ?_), hb.setCell (Nat.le_refl _) _⟩, by simp [intOf]; omega⟩
      unfold updI
      by_cases e : v = k
      · subst e; simp
      · rw [if_neg e]
        show (if v < k then c else 0) = _
        by_cases e2 : v < k
        · rw [if_pos e2, if_pos (by omega)]
        · rw [if_neg e2, if_neg (by omega)]
    · have hlt' : ¬ (k : Int) < n := by omega
      go_wp2_with fail
      go_ret
      exact ⟨_, rfl, ht.congr (fun v hv => by rw [if_pos (by omega)]), Nat.le_refl _, hb⟩
set_option maxRecDepth 100000 in
set_option maxHeartbeats 800000 in
theorem filledI_any (n : Nat) (hn : n ≤ 8192) (c : Int) (w : World) :
    Calls Tryz.prog 135 #[.int .i64 n, .int .i64 c] w fun e w' => ∃ b, e = .returned (.slice (some ⟨b, 0, none⟩) n n) ∧ Tb w' b n 3 .i64 (fun _ => c) ∧ w.heap.size ≤ b ∧ Below w.heap.size w w' := by
  obtain ⟨i0, hi, hz0, hz1, hz2⟩ := info_parts info3
  have HM := Lib.hid (made_int n)
  go_enter Tryz.func135, Tryz.ntmps135
  go_wp2_with (at_make; refine wpList_make_full _ rfl (.tmp 7) (.tmp 7) 25 rfl 0 3 i0 (.int .i64 0) 1 Tryz.underlying25 hi hz0 hz1 .i64 .i64 n n n rfl rfl rfl rfl (by rw [hz2]; omega) (by unfold maxLen; omega) (Nat.zero_le _) ?_; intro w1 hown1 hgrow1; rw [HM.out] at hown1)
  have hrow : Tb w1 w.heap.size n 3 .i64 (fun _ => 0) := row_made hown1
  have hb1 : Below w.heap.size w w1 := (Below.refl _ _).grown hgrow1 (Nat.le_refl _) (by intro k hk; cases hk)
  clear hown1 hgrow1
  go_wp2_with fail
  go_loopw [11] (fun i wr => ∃ k : Nat, k ≤ n ∧ i = .int .i64 k ∧ Tb wr w.heap.size n 3 .i64 (fun v => if v < k then c else 0) ∧ Below w.heap.size w wr) (fun i _ => n - (intOf i).toNat)
  case atStart => exact ⟨0, Nat.zero_le _, rfl, hrow.congr (fun v _ => by simp), hb1⟩
  case round =>
    obtain ⟨k, hk, rfl, ht, hb⟩ := hrel
    by_cases hlt : k < n
    · have c0 := ht.cell hlt
      have f0 := ht.free k
      have hlt' : (k : Int) < n := by omega
      go_wp2_with fail
      refine ⟨⟨k + 1, by omega, by go_num, (ht.set k c).congr (fun v _ => ?_), hb.setCell (Nat.le_refl _) _⟩, by simp [intOf]; omega⟩
      unfold updI
      by_cases e : v = k
      · subst e; simp
      · rw [if_neg e]
        show (if v < k then c else 0) = _
        by_cases e2 : v < k
        · rw [if_pos e2, if_pos (by omega)]
        · rw [if_neg e2, if_neg (by omega)]
    · have hlt' : ¬ (k : Int) < n := by omega
      go_wp2_with fail
      go_ret
      exact ⟨_, rfl, ht.congr (fun v hv => by rw [if_pos (by omega)]), Nat.le_refl _, hb⟩
set_option maxRecDepth 100000 in
set_option maxHeartbeats 400000 in
theorem unreached_any (n : Nat) (hn : n ≤ 8192) (w : World) :
    Calls Tryz.prog 103 #[.int .i64 n] w fun e w' => ∃ b, e = .returned (.slice (some ⟨b, 0, none⟩) n n) ∧ Tb w' b n 47 .u64 (fun _ => Inf) ∧ w.heap.size ≤ b ∧ Below w.heap.size w w' := by
  have HF := Lib.hid (filledD_any n hn 18446744073709551615 w)
  go_enter Tryz.func103, Tryz.ntmps103
  go_wp2_with fail
  refine HF.out.mono ?_
  rintro e w1 ⟨b, rfl, h1, h2, h3⟩
  go_wp2_with fail
  go_ret
  exact ⟨b, rfl, h1, h2, h3⟩
set_option maxRecDepth 100000 in
set_option maxHeartbeats 400000 in
theorem add_any (a b : Int) (ha : 0 ≤ a ∧ a ≤ Inf) (hb : 0 ≤ b ∧ b ≤ Inf) (w : World) :
    Calls Tryz.prog 101 #[.int .u64 a, .int .u64 b] w fun e w' => e = .returned (.int .u64 (sat a b)) ∧ w' = w := by
  unfold Inf at ha hb
  by_cases h : 18446744073709551615 ≤ a + b
  · have h1 : 18446744073709551615 - b ≤ a := by omega
    have HS : Hid (sat a b = 18446744073709551615) := by show _ = _; unfold sat Inf; rw [if_pos h]
    clear h
    go_enter Tryz.func101, Tryz.ntmps101
    go_wp2_with fail
    go_ret
    exact ⟨by rw [HS.out]; rfl, rfl⟩
  · have h1 : ¬ 18446744073709551615 - b ≤ a := by omega
    have HS : Hid (sat a b = a + b) := by show _ = _; unfold sat Inf; rw [if_neg h]
    go_enter Tryz.func101, Tryz.ntmps101
    go_wp2_with fail
    go_ret
    exact ⟨by rw [HS.out]; rfl, rfl⟩
end Go.Proofs.YtpmjbeiclmllmaaGreat.N5
