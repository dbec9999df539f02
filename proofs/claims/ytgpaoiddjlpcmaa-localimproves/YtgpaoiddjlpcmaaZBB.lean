/-
  Contract of graph.Reverse. Arcs as cells of a row of our own; contracts of slices.Clone (of arcs) and graph.copied.
-/
import Derived.Test.YtgpaoiddjlpcmaaZBA
import Derived.Laws.AppendOwnNone
import Derived.Deep.RegionWith
import Derived.Lib.SliceRun
import Derived.BigRegion
namespace Go.Proofs.Ytgpaoiddjlpcmaa.T3
open Go.RowKit
theorem info53 : (Try.prog.info? 51).map (fun i => (i.zero, i.size, i.bytes)) = some (some (.agg #[.int .i64 0, .int .i64 0, .int .u32 0]), 3, 24) := by kernel_rfl
/-- Arcs as cells. -/
def cellsA : List A → List Value
  | [] => []
  | x :: r => .int .i64 x.f :: .int .i64 x.t :: .int .u32 x.w :: cellsA r
theorem cellsA_len : ∀ l : List A, (cellsA l).length = l.length * 3
  | [] => rfl
  | x :: r => by simp only [cellsA, List.length_cons, cellsA_len r]; omega
theorem cellsA_append : ∀ l m : List A, cellsA (l ++ m) = cellsA l ++ cellsA m
  | [], _ => rfl
  | x :: r, m => by simp only [cellsA, List.cons_append, cellsA_append r m]
theorem cellsA_at : ∀ (l : List A) (j : Nat), j < l.length → (cellsA l)[j * 3]? = some (.int .i64 (l.getD j A.zero).f) ∧ (cellsA l)[j * 3 + 1]? = some (.int .i64 (l.getD j A.zero).t) ∧ (cellsA l)[j * 3 + 2]? = some (.int .u32 (l.getD j A.zero).w)
  | [], _, h => absurd h (by simp)
  | x :: r, 0, _ => ⟨rfl, rfl, rfl⟩
  | x :: r, j + 1, h => by
    have := cellsA_at r j (by simpa using h)
    rw [show (j + 1) * 3 = j * 3 + 3 by omega]
    exact this
theorem cellsA_one : ∀ (l : List A), ∀ u ∈ cellsA l, u.oneCell' = true
  | [], u, h => by cases h
  | x :: r, u, h => by
    simp only [cellsA, List.mem_cons] at h
    rcases h with rfl | rfl | rfl | h
    · rfl
    · rfl
    · rfl
    · exact cellsA_one r u h
theorem cellsA_set : ∀ (l : List A) (j : Nat) (v : Int), j < l.length →
    (cellsA l).set (j * 3) (.int .i64 v) = cellsA (l.set j ⟨v, (l.getD j A.zero).t, (l.getD j A.zero).w⟩) ∧
    (cellsA l).set (j * 3 + 1) (.int .i64 v) = cellsA (l.set j ⟨(l.getD j A.zero).f, v, (l.getD j A.zero).w⟩) ∧
    (cellsA l).set (j * 3 + 2) (.int .u32 v) = cellsA (l.set j ⟨(l.getD j A.zero).f, (l.getD j A.zero).t, v⟩)
  | [], _, _, h => absurd h (by simp)
  | x :: r, 0, v, _ => ⟨rfl, rfl, rfl⟩
  | x :: r, j + 1, v, h => by
    have := cellsA_set r j v (by simpa using h)
    rw [show (j + 1) * 3 = j * 3 + 3 by omega]
    exact ⟨congrArg (fun t => Value.int .i64 x.f :: Value.int .i64 x.t :: Value.int .u32 x.w :: t) this.1, congrArg (fun t => Value.int .i64 x.f :: Value.int .i64 x.t :: Value.int .u32 x.w :: t) this.2.1, congrArg (fun t => Value.int .i64 x.f :: Value.int .i64 x.t :: Value.int .u32 x.w :: t) this.2.2⟩
theorem cells_of_at {w : World} {b o : Nat} : ∀ (l : List A) (p : Nat), (∀ j, j < l.length → (l.getD j A.zero).at w b (o + (p + j) * 3)) → ∀ i u, (cellsA l)[i]? = some u → w.cell? ⟨b, o + p * 3 + i, none⟩ = some u
  | [], _, _, i, u, h => by simp [cellsA] at h
  | x :: r, p, ha, i, u, h => by
    have h0 := ha 0 (by simp)
    simp only [Nat.add_zero] at h0
    match i, h with
    | 0, h => simp [cellsA] at h; subst h; exact h0.1
    | 1, h => simp [cellsA] at h; subst h; exact h0.2.1
    | 2, h => simp [cellsA] at h; subst h; exact h0.2.2
    | i + 3, h =>
      have := cells_of_at r (p + 1) (fun j hj => by have := ha (j + 1) (by simpa using hj); rw [show p + (j + 1) = p + 1 + j by omega] at this; exact this) i u (by simpa [cellsA] using h)
      rw [show o + p * 3 + (i + 3) = o + (p + 1) * 3 + i by omega]
      exact this
/-- A row of arcs of our own. -/
def OwnA (w : World) (B : Nat) (a : Option Addr) (c : Nat) (l : List A) : Prop := w.ownsRow B 51 3 (.slice a l.length c) l.length (cellsA l)
theorem OwnA.some {w : World} {B : Nat} {a : Option Addr} {c : Nat} {l : List A} (h : OwnA w B a c l) (h0 : 0 < l.length) : ∃ g, a = some ⟨g, 0, none⟩ ∧ B ≤ g ∧ g < w.heap.size := by
  rcases h.2 with ⟨_, h'⟩ | ⟨g, c', cur, h', hb, hg, _⟩
  · omega
  · injection h' with e1 e2 e3
    exact ⟨g, e1, hb, lt_of_block hg⟩
theorem OwnA.at {w : World} {B g c : Nat} {l : List A} (h : OwnA w B (.some ⟨g, 0, none⟩) c l) (j : Nat) (hj : j < l.length) : (l.getD j A.zero).at w g (j * 3) := by
  obtain ⟨h1, h2, h3⟩ := cellsA_at l j hj
  exact ⟨(World.ownsRow.cellAt h (j * 3) (by omega)).trans h1, (World.ownsRow.cellAt h (j * 3 + 1) (by omega)).trans h2, (World.ownsRow.cellAt h (j * 3 + 2) (by omega)).trans h3⟩
theorem OwnA.arcs {w : World} {B : Nat} {a : Option Addr} {c : Nat} {l : List A} (h : OwnA w B a c l) : Arcs w a l := by
  by_cases h0 : 0 < l.length
  · obtain ⟨g, rfl, _, hg⟩ := h.some h0
    exact Or.inr ⟨g, 0, rfl, hg, fun j hj => by rw [Nat.zero_add]; exact h.at j hj⟩
  · exact Or.inl (List.eq_nil_of_length_eq_zero (by omega))
theorem OwnA.alloc {w : World} {B : Nat} {a : Option Addr} {c : Nat} {l : List A} (h : OwnA w B a c l) (o : Obj) : OwnA (w.alloc o) B a c l := World.ownsRow.alloc h o
theorem OwnA.on {w w' : World} {B : Nat} {a : Option Addr} {c : Nat} {l : List A} (h : OwnA w B a c l) (hb : Below w.heap.size w w') : OwnA w' B a c l := by
  refine ⟨h.1, ?_⟩
  rcases h.2 with h' | ⟨g, c', cur, h1, h2, h3, h4⟩
  · exact Or.inl h'
  · exact Or.inr ⟨g, c', cur, h1, h2, (hb.block g (lt_of_block h3)).trans h3, h4⟩
theorem OwnA.base {w : World} {B B' : Nat} {a : Option Addr} {c : Nat} {l : List A} (h : OwnA w B a c l) (hb : B' ≤ B) : OwnA w B' a c l := own_base h hb
theorem OwnA.nil (w : World) (B : Nat) : OwnA w B none 0 [] := World.ownsRow_nil _ _ _ _
theorem clone_news {w : World} {ad : Addr} {l : List A} (h : Arcs w (some ad) l) (o : Obj) : ∀ j u, (cellsA l)[j]? = some u → (w.alloc o).cell? (ad.add j) = some u := by
  intro j u hu
  rcases h with rfl | ⟨b, q, he, hb, hc⟩
  · simp [cellsA] at hu
  · cases he
    have := cells_of_at (o := q) l 0 (fun j hj => by rw [Nat.zero_add]; exact hc j hj) j u hu
    rw [Go.WideShapes.add_plain, World.cell?_alloc_past _ _ _ hb]
    simpa using this
theorem eql_nil (w : World) (a : Option Addr) (n c : Nat) : (binOp .eql 22 (.slice a n c) (.slice none 0 0)).run Try.prog w = .ok (.bool a.isNone) w := Lib.run_eql_slice_nil w 22 51 a n c 0 0 Try.underlying22
end Go.Proofs.Ytgpaoiddjlpcmaa.T3
namespace Go.Proofs.Ytgpaoiddjlpcmaa.T3
open Go.RowKit
/-- An arc, turned about. -/
def A.turn (x : A) : A := ⟨x.t, x.f, x.w⟩
def turned (l : List A) : List A := l.map A.turn
theorem turned_len (l : List A) : (turned l).length = l.length := by unfold turned; simp
theorem turned_getD (l : List A) (j : Nat) (h : j < l.length) : (turned l).getD j A.zero = (l.getD j A.zero).turn := by
  unfold turned; simp [List.getD, List.getElem?_eq_getElem h]
theorem turned_ext {l X : List A} (hx : X.length = l.length) (h : ∀ j, j < l.length → X.getD j A.zero = (l.getD j A.zero).turn) : X = turned l := by
  apply List.ext_getElem (by rw [turned_len]; exact hx)
  intro j h1 h2
  have e1 : X.getD j A.zero = X[j] := by simp [List.getD, List.getElem?_eq_getElem h1]
  have e2 : (turned l).getD j A.zero = (turned l)[j] := by simp [List.getD, List.getElem?_eq_getElem h2]
  rw [← e1, ← e2, turned_getD l j (by omega), h j (by omega)]
theorem getDA_set (L : List A) (k j : Nat) (x : A) (hk : k < L.length) : (L.set k x).getD j A.zero = if j = k then x else L.getD j A.zero := by
  by_cases h : j = k
  · subst h; simp [List.getD, hk]
  · rw [if_neg h]; simp [List.getD, Ne.symm h]
theorem OwnA.free {w : World} {B g c : Nat} {l : List A} (h : OwnA w B (.some ⟨g, 0, none⟩) c l) (k : Nat) : w.frozen? ⟨g, k, none⟩ = false := World.ownsRow.frozenAt h k
theorem OwnA.set0 {w : World} {B g c : Nat} {l : List A} (h : OwnA w B (.some ⟨g, 0, none⟩) c l) (j : Nat) (v : Int) (hj : j < l.length) : OwnA (w.setCell ⟨g, j * 3, none⟩ (.int .i64 v)) B (.some ⟨g, 0, none⟩) c (l.set j ⟨v, (l.getD j A.zero).t, (l.getD j A.zero).w⟩) := by
  have := (World.ownsRow.stored h (j * 3) (.int .i64 v)).1
  rw [(cellsA_set l j v hj).1] at this
  unfold OwnA
  rw [List.length_set]; exact this
theorem OwnA.set1 {w : World} {B g c : Nat} {l : List A} (h : OwnA w B (.some ⟨g, 0, none⟩) c l) (j : Nat) (v : Int) (hj : j < l.length) : OwnA (w.setCell ⟨g, j * 3 + 1, none⟩ (.int .i64 v)) B (.some ⟨g, 0, none⟩) c (l.set j ⟨(l.getD j A.zero).f, v, (l.getD j A.zero).w⟩) := by
  have := (World.ownsRow.stored h (j * 3 + 1) (.int .i64 v)).1
  rw [(cellsA_set l j v hj).2.1] at this
  unfold OwnA
  rw [List.length_set]; exact this
theorem OwnA.set2 {w : World} {B g c : Nat} {l : List A} (h : OwnA w B (.some ⟨g, 0, none⟩) c l) (j : Nat) (v : Int) (hj : j < l.length) : OwnA (w.setCell ⟨g, j * 3 + 2, none⟩ (.int .u32 v)) B (.some ⟨g, 0, none⟩) c (l.set j ⟨(l.getD j A.zero).f, (l.getD j A.zero).t, v⟩) := by
  have := (World.ownsRow.stored h (j * 3 + 2) (.int .u32 v)).1
  rw [(cellsA_set l j v hj).2.2] at this
  unfold OwnA
  rw [List.length_set]; exact this
theorem OwnA.turn {w : World} {B g c : Nat} {X : List A} (h : OwnA w B (.some ⟨g, 0, none⟩) c X) (j : Nat) {x : A} (hj : j < X.length) (hx : X.getD j A.zero = x) : OwnA ((w.setCell ⟨g, j * 3, none⟩ (.int .i64 x.t)).setCell ⟨g, j * 3 + 1, none⟩ (.int .i64 x.f)) B (.some ⟨g, 0, none⟩) c (X.set j x.turn) := by
  have h1 := (h.set0 j x.t hj).set1 j x.f (by rw [List.length_set]; exact hj)
  rw [getDA_set _ _ _ _ hj, if_pos rfl, hx, List.set_set] at h1
  exact h1
/-- A graph that a call made. -/
def MadeG (w w' : World) (e : Ending) (N : Int) (l : List A) (E : Int) : Prop :=
  ∃ a c, e = .returned (.tuple #[.agg #[.int .i64 N, .slice a l.length c], .int .i64 E]) ∧ OwnA w' w.heap.size a c l ∧ (a = none → l = [] ∧ c = 0) ∧ Below w.heap.size w w'
end Go.Proofs.Ytgpaoiddjlpcmaa.T3
