/-
  Arcs as cells; the contract of the book's SameGraph.
-/
import Derived.Test.YtpmjbeiclmllmaaSame
import Derived.Laws.StructEq
namespace Go.Proofs.Ytpmjbeiclmllmaa
open Go.RowKit
/-- The arcs of a slice lie so in memory, below B. -/
def ArcsB (B : Nat) (w : World) (a : Option Addr) (l : List A) : Prop :=
  l = [] ∨ ∃ b o, a = some ⟨b, o, none⟩ ∧ b < B ∧ ∀ j, j < l.length → (l.getD j A.zero).at w b (o + j * 3)
theorem A.at.onB {x : A} {w w' : World} {b o B : Nat} (h : x.at w b o) (hl : b < B) (hb : Below B w w') : x.at w' b o :=
  ⟨(hb.cell hl).trans h.1, (hb.cell (p := ⟨b, o + 1, none⟩) hl).trans h.2.1, (hb.cell (p := ⟨b, o + 2, none⟩) hl).trans h.2.2⟩
theorem ArcsB.on {B : Nat} {w w' : World} {a : Option Addr} {l : List A} (h : ArcsB B w a l) (hb : Below B w w') : ArcsB B w' a l := by
  rcases h with h | ⟨b, o, rfl, hl, hc⟩
  · exact Or.inl h
  · exact Or.inr ⟨b, o, rfl, hl, fun j hj => (hc j hj).onB hl hb⟩
theorem ArcsB.up {B B' : Nat} {w : World} {a : Option Addr} {l : List A} (h : ArcsB B w a l) (hb : B ≤ B') : ArcsB B' w a l := by
  rcases h with h | ⟨b, o, rfl, hl, hc⟩
  · exact Or.inl h
  · exact Or.inr ⟨b, o, rfl, Nat.lt_of_lt_of_le hl hb, hc⟩
theorem Arcs.b {w : World} {a : Option Addr} {l : List A} (h : Arcs w a l) : ArcsB w.heap.size w a l := h
theorem ArcsB.a {B : Nat} {w : World} {a : Option Addr} {l : List A} (h : ArcsB B w a l) (hb : B ≤ w.heap.size) : Arcs w a l := h.up hb
theorem ArcsB.get {B : Nat} {w : World} {a : Option Addr} {l : List A} (h : ArcsB B w a l) : ∃ b o, 0 < l.length → a = some ⟨b, o, none⟩ ∧ b < B ∧ ∀ j, j < l.length → (l.getD j A.zero).at w b (o + j * 3) := by
  rcases h with rfl | ⟨b, o, h⟩
  · exact ⟨0, 0, fun h => absurd h (by simp)⟩
  · exact ⟨b, o, fun _ => h⟩
theorem info53 : (Try.prog.info? 56).map (fun i => (i.zero, i.size, i.bytes)) = some (some (.agg #[.int .i64 0, .int .i64 0, .int .u32 0]), 3, 24) := by kernel_rfl
/-- Arcs as cells. -/
def cellsA : List A → List Value
  | [] => []
  | x :: r => .int .i64 x.f :: .int .i64 x.t :: .int .u32 x.w :: cellsA r
theorem cellsA_len : ∀ l : List A, (cellsA l).length = l.length * 3
  | [] => rfl
  | x :: r => by simp only [cellsA, List.length_cons, cellsA_len r]; omega
theorem cellsA_append : ∀ l m : List A, cellsA (l ++ m) = cellsA l ++ cellsA m
  | [], _ => rfl
  | x :: r, m => by simp only [cellsA, List.cons_append, cellsA_append r m]
theorem cellsA_at : ∀ (l : List A) (j : Nat), j < l.length → (cellsA l)[j * 3]? = some (.int .i64 (l.getD j A.zero).f) ∧ (cellsA l)[j * 3 + 1]? = some (.int .i64 (l.getD j A.zero).t) ∧ (cellsA l)[j * 3 + 2]? = some (.int .u32 (l.getD j A.zero).w)
  | [], _, h => absurd h (by simp)
  | x :: r, 0, _ => ⟨rfl, rfl, rfl⟩
  | x :: r, j + 1, h => by
    have := cellsA_at r j (by simpa using h)
    rw [show (j + 1) * 3 = j * 3 + 3 by omega]
    exact this
theorem cellsA_one : ∀ (l : List A), ∀ u ∈ cellsA l, u.oneCell' = true
  | [], u, h => by cases h
  | x :: r, u, h => by
    simp only [cellsA, List.mem_cons] at h
    rcases h with rfl | rfl | rfl | h
    · rfl
    · rfl
    · rfl
    · exact cellsA_one r u h
theorem cellsA_set : ∀ (l : List A) (j : Nat) (v : Int), j < l.length →
    (cellsA l).set (j * 3) (.int .i64 v) = cellsA (l.set j ⟨v, (l.getD j A.zero).t, (l.getD j A.zero).w⟩) ∧
    (cellsA l).set (j * 3 + 1) (.int .i64 v) = cellsA (l.set j ⟨(l.getD j A.zero).f, v, (l.getD j A.zero).w⟩) ∧
    (cellsA l).set (j * 3 + 2) (.int .u32 v) = cellsA (l.set j ⟨(l.getD j A.zero).f, (l.getD j A.zero).t, v⟩)
  | [], _, _, h => absurd h (by simp)
  | x :: r, 0, v, _ => ⟨rfl, rfl, rfl⟩
  | x :: r, j + 1, v, h => by
    have := cellsA_set r j v (by simpa using h)
    rw [show (j + 1) * 3 = j * 3 + 3 by omega]
    exact ⟨congrArg (fun t => Value.int .i64 x.f :: Value.int .i64 x.t :: Value.int .u32 x.w :: t) this.1, congrArg (fun t => Value.int .i64 x.f :: Value.int .i64 x.t :: Value.int .u32 x.w :: t) this.2.1, congrArg (fun t => Value.int .i64 x.f :: Value.int .i64 x.t :: Value.int .u32 x.w :: t) this.2.2⟩
theorem cells_of_at {w : World} {b o : Nat} : ∀ (l : List A) (p : Nat), (∀ j, j < l.length → (l.getD j A.zero).at w b (o + (p + j) * 3)) → ∀ i u, (cellsA l)[i]? = some u → w.cell? ⟨b, o + p * 3 + i, none⟩ = some u
  | [], _, _, i, u, h => by simp [cellsA] at h
  | x :: r, p, ha, i, u, h => by
    have h0 := ha 0 (by simp)
    simp only [Nat.add_zero] at h0
    match i, h with
    | 0, h => simp [cellsA] at h; subst h; exact h0.1
    | 1, h => simp [cellsA] at h; subst h; exact h0.2.1
    | 2, h => simp [cellsA] at h; subst h; exact h0.2.2
    | i + 3, h =>
      have := cells_of_at r (p + 1) (fun j hj => by have := ha (j + 1) (by simpa using hj); rw [show p + (j + 1) = p + 1 + j by omega] at this; exact this) i u (by simpa [cellsA] using h)
      rw [show o + p * 3 + (i + 3) = o + (p + 1) * 3 + i by omega]
      exact this
/-- A row of arcs of our own. -/
def OwnA (w : World) (B : Nat) (a : Option Addr) (c : Nat) (l : List A) : Prop := w.ownsRow B 56 3 (.slice a l.length c) l.length (cellsA l)
theorem OwnA.some {w : World} {B : Nat} {a : Option Addr} {c : Nat} {l : List A} (h : OwnA w B a c l) (h0 : 0 < l.length) : ∃ g, a = some ⟨g, 0, none⟩ ∧ B ≤ g ∧ g < w.heap.size := by
  rcases h.2 with ⟨_, h'⟩ | ⟨g, c', cur, h', hb, hg, _⟩
  · omega
  · injection h' with e1 e2 e3
    exact ⟨g, e1, hb, lt_of_block hg⟩
theorem OwnA.at {w : World} {B g c : Nat} {l : List A} (h : OwnA w B (.some ⟨g, 0, none⟩) c l) (j : Nat) (hj : j < l.length) : (l.getD j A.zero).at w g (j * 3) := by
  obtain ⟨h1, h2, h3⟩ := cellsA_at l j hj
  exact ⟨(World.ownsRow.cellAt h (j * 3) (by omega)).trans h1, (World.ownsRow.cellAt h (j * 3 + 1) (by omega)).trans h2, (World.ownsRow.cellAt h (j * 3 + 2) (by omega)).trans h3⟩
theorem OwnA.arcs {w : World} {B : Nat} {a : Option Addr} {c : Nat} {l : List A} (h : OwnA w B a c l) : Arcs w a l := by
  by_cases h0 : 0 < l.length
  · obtain ⟨g, rfl, _, hg⟩ := h.some h0
    exact Or.inr ⟨g, 0, rfl, hg, fun j hj => by rw [Nat.zero_add]; exact h.at j hj⟩
  · exact Or.inl (List.eq_nil_of_length_eq_zero (by omega))
theorem OwnA.alloc {w : World} {B : Nat} {a : Option Addr} {c : Nat} {l : List A} (h : OwnA w B a c l) (o : Obj) : OwnA (w.alloc o) B a c l := World.ownsRow.alloc h o
theorem OwnA.on {w w' : World} {B : Nat} {a : Option Addr} {c : Nat} {l : List A} (h : OwnA w B a c l) (hb : Below w.heap.size w w') : OwnA w' B a c l := by
  refine ⟨h.1, ?_⟩
  rcases h.2 with h' | ⟨g, c', cur, h1, h2, h3, h4⟩
  · exact Or.inl h'
  · exact Or.inr ⟨g, c', cur, h1, h2, (hb.block g (lt_of_block h3)).trans h3, h4⟩
theorem OwnA.base {w : World} {B B' : Nat} {a : Option Addr} {c : Nat} {l : List A} (h : OwnA w B a c l) (hb : B' ≤ B) : OwnA w B' a c l := own_base h hb
theorem OwnA.nil (w : World) (B : Nat) : OwnA w B none 0 [] := World.ownsRow_nil _ _ _ _
theorem clone_news {w : World} {ad : Addr} {l : List A} (h : Arcs w (some ad) l) (o : Obj) : ∀ j u, (cellsA l)[j]? = some u → (w.alloc o).cell? (ad.add j) = some u := by
  intro j u hu
  rcases h with rfl | ⟨b, q, he, hb, hc⟩
  · simp [cellsA] at hu
  · cases he
    have := cells_of_at (o := q) l 0 (fun j hj => by rw [Nat.zero_add]; exact hc j hj) j u hu
    rw [Go.WideShapes.add_plain, World.cell?_alloc_past _ _ _ hb]
    simpa using this
set_option maxHeartbeats 800000 in
theorem sameGraph_any (N : Int) (a a' : Option Addr) (cap cap' : Nat) (l : List A) (w : World) (hlen : l.length ≤ 9223372036854775807) (hr : Arcs w a l) (hr' : Arcs w a' l) :
    Calls Try.prog 61 #[.agg #[.int .i64 N, .slice a l.length cap], .agg #[.int .i64 N, .slice a' l.length cap']] w fun e w' => e = .returned (.bool true) ∧ Below w.heap.size w w' := by
  have hb0 : Below w.heap.size w ((w.alloc (.cells #[.int .i64 N, .slice a l.length cap] 24)).alloc (.cells #[.int .i64 N, .slice a' l.length cap'] 24)) := ((Below.refl _ _).alloc (Nat.le_refl _) _).alloc (by simp) _
  have hg : ((w.alloc (.cells #[.int .i64 N, .slice a l.length cap] 24)).alloc (.cells #[.int .i64 N, .slice a' l.length cap'] 24)).heap[w.heap.size]? = some (.cells #[.int .i64 N, .slice a l.length cap] 24) := (Below.heap_alloc _ _ _ (by simp)).trans (heap_top w _)
  have h1 := heap_top (w.alloc (.cells #[.int .i64 N, .slice a l.length cap] 24)) (.cells #[.int .i64 N, .slice a' l.length cap'] 24)
  rw [show (w.alloc (.cells #[.int .i64 N, .slice a l.length cap] 24)).heap.size = w.heap.size + 1 by simp] at h1
  generalize hW : (w.alloc (.cells #[.int .i64 N, .slice a l.length cap] 24)).alloc (.cells #[.int .i64 N, .slice a' l.length cap'] 24) = W at *
  obtain ⟨⟨g0, g1⟩, gf0, gf1⟩ := two_cells hg
  obtain ⟨⟨k0, k1⟩, kf0, kf1⟩ := two_cells h1
  have hrW := hr.on hb0
  have hrW' := hr'.on hb0
  obtain ⟨b, o, hab⟩ := hrW.b.get
  obtain ⟨b', o', hab'⟩ := hrW'.b.get
  go_enter Try.func61, Try.ntmps61
  go_wp2_with fail
  go_loopw [5] (fun i wr => ∃ k n : Nat, k ≤ l.length ∧ i = .int .i64 k ∧ wr = W.drewN n) (fun i _ => l.length - (intOf i).toNat)
  case atStart => exact ⟨0, 0, Nat.zero_le _, rfl, rfl⟩
  case round =>
    obtain ⟨k, n, hk, rfl, rfl⟩ := hrel
    by_cases hlt : k < l.length
    · obtain ⟨rfl, _, hc⟩ := hab (by omega)
      obtain ⟨rfl, _, hc'⟩ := hab' (by omega)
      obtain ⟨c0, c1, c2⟩ := hc k hlt
      obtain ⟨d0, d1, d2⟩ := hc' k hlt
      clear hc hc'
      generalize l.getD k A.zero = x at *
      go_wp2_with fail
      go_quiet (fail)
      go_wp2_with fail
      exact ⟨⟨k + 1, _, by omega, by go_num, rfl⟩, by simp [intOf]; omega⟩
    · go_wp2_with fail
      go_ret
      exact ⟨rfl, hb0.trans (below_drewN _ _ _)⟩
end Go.Proofs.Ytpmjbeiclmllmaa
