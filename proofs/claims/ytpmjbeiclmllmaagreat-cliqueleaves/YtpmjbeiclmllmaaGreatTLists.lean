/-
  Contracts of the method add of a list, and of what goes through arcs and tells it members.
-/
import Derived.Test.YtpmjbeiclmllmaaGreatTBase
namespace Go.Proofs.YtpmjbeiclmllmaaGreat.T3
open Go.RowKit
theorem info3 : (Tryz.prog.info? 3).map (fun i => (i.zero, i.size, i.bytes)) = some (some (.int .i64 0), 1, 8) := by kernel_rfl
/-- Numbers as cells. -/
def cellsI (l : List Int) : List Value := l.map (Value.int .i64)
theorem cellsI_len (l : List Int) : (cellsI l).length = l.length := by unfold cellsI; simp
theorem cellsI_snoc (l : List Int) (x : Int) : cellsI l ++ [.int .i64 x] = cellsI (l ++ [x]) := by unfold cellsI; simp
theorem cellsI_getD (xs : List Int) (k : Nat) (h : k < xs.length) : (cellsI xs)[k]? = some (.int .i64 (xs.getD k 0)) := by
  unfold cellsI
  simp [List.getD, List.getElem?_eq_getElem h]
theorem cellsI_set (xs : List Int) (k : Nat) (x : Int) : (cellsI xs).set k (.int .i64 x) = cellsI (xs.set k x) := by
  unfold cellsI
  rw [List.map_set]
theorem one_i64 (x : Int) : ∀ u ∈ [Value.int .i64 x], u.oneCell' = true := by intro u hu; simp at hu; subst hu; rfl
theorem own_shape {w : World} {base : Nat} {e : TypeId} {size : Nat} {v : Value} {n : Nat} {xs : List Value} (h : w.ownsRow base e size v n xs) (hn : v ≠ .slice none 0 0) : ∃ g c, v = .slice (some ⟨g, 0, none⟩) n c ∧ base ≤ g ∧ n ≤ c ∧ g < w.heap.size ∧ c ≤ 9223372036854775807 := by
  rcases h.2 with ⟨h', _⟩ | ⟨g, c, cur, h', hb, hg, hnc, hm, _⟩
  · exact absurd h' hn
  · exact ⟨g, c, h', hb, hnc, lt_of_block hg, hm⟩
/-- What is kept while it is filled: all below the variable, and what is of another type. -/
def Kp (m : Nat) (w w' : World) : Prop := Below m w w' ∧ ∀ k o, w.heap[k]? = some o → k ≠ m → (∀ cur, o ≠ .cells cur 3 (0, 0)) → w'.heap[k]? = some o
theorem Kp.refl (m : Nat) (w : World) : Kp m w w := ⟨Below.refl _ _, fun _ _ h _ _ => h⟩
theorem Kp.trans {m : Nat} {a b c : World} (h : Kp m a b) (k : Kp m b c) : Kp m a c := ⟨h.1.trans k.1, fun i o ho hm ht => k.2 i o (h.2 i o ho hm ht) hm ht⟩
theorem Kp.of {m : Nat} {a b : World} (h : Below a.heap.size a b) (hm : m ≤ a.heap.size) : Kp m a b := ⟨h.mono hm, fun k _ ho _ _ => (h.block k (lt_of_block ho)).trans ho⟩
theorem Kp.alloc {m : Nat} {a b : World} (h : Kp m a b) (hm : m ≤ b.heap.size) (o : Obj) : Kp m a (b.alloc o) := h.trans (Kp.of ((Below.refl _ _).alloc (Nat.le_refl _) o) hm)
/-- The places that are hit, rising. -/
def hits (q : Nat → Bool) : Nat → List Int
  | 0 => []
  | k + 1 => if q k then hits q k ++ [(k : Int)] else hits q k
theorem hits_t {q : Nat → Bool} {k : Nat} (h : q k = true) : hits q (k + 1) = hits q k ++ [(k : Int)] := by rw [hits, if_pos h]
theorem hits_f {q : Nat → Bool} {k : Nat} (h : q k = false) : hits q (k + 1) = hits q k := by rw [hits, if_neg (by simp [h])]
theorem hits_len (q : Nat → Bool) (k : Nat) : (hits q k).length ≤ k := by
  induction k with
  | zero => simp [hits]
  | succ k ih =>
    unfold hits
    split
    · simp; omega
    · omega
/-- The arcs of a slice lie so in memory, below B. -/
def ArcsB (B : Nat) (w : World) (a : Option Addr) (l : List A) : Prop :=
  l = [] ∨ ∃ b o, a = some ⟨b, o, none⟩ ∧ b < B ∧ ∀ j, j < l.length → (l.getD j A.zero).at w b (o + j * 3)
theorem A.at.onB {x : A} {w w' : World} {b o B : Nat} (h : x.at w b o) (hl : b < B) (hb : Below B w w') : x.at w' b o :=
  ⟨(hb.cell hl).trans h.1, (hb.cell (p := ⟨b, o + 1, none⟩) hl).trans h.2.1, (hb.cell (p := ⟨b, o + 2, none⟩) hl).trans h.2.2⟩
theorem ArcsB.on {B : Nat} {w w' : World} {a : Option Addr} {l : List A} (h : ArcsB B w a l) (hb : Below B w w') : ArcsB B w' a l := by
  rcases h with h | ⟨b, o, rfl, hl, hc⟩
  · exact Or.inl h
  · exact Or.inr ⟨b, o, rfl, hl, fun j hj => (hc j hj).onB hl hb⟩
theorem ArcsB.up {B B' : Nat} {w : World} {a : Option Addr} {l : List A} (h : ArcsB B w a l) (hb : B ≤ B') : ArcsB B' w a l := by
  rcases h with h | ⟨b, o, rfl, hl, hc⟩
  · exact Or.inl h
  · exact Or.inr ⟨b, o, rfl, Nat.lt_of_lt_of_le hl hb, hc⟩
theorem Arcs.b {w : World} {a : Option Addr} {l : List A} (h : Arcs w a l) : ArcsB w.heap.size w a l := h
theorem ArcsB.a {B : Nat} {w : World} {a : Option Addr} {l : List A} (h : ArcsB B w a l) (hb : B ≤ w.heap.size) : Arcs w a l := h.up hb
theorem ArcsB.get {B : Nat} {w : World} {a : Option Addr} {l : List A} (h : ArcsB B w a l) : ∃ b o, 0 < l.length → a = some ⟨b, o, none⟩ ∧ b < B ∧ ∀ j, j < l.length → (l.getD j A.zero).at w b (o + j * 3) := by
  rcases h with rfl | ⟨b, o, h⟩
  · exact ⟨0, 0, fun h => absurd h (by simp)⟩
  · exact ⟨b, o, fun _ => h⟩
theorem not3 {t : TypeId} {c : Array Value} (h : t ≠ 3) : ∀ cur, Obj.cells c t (0, 0) ≠ .cells cur 3 (0, 0) := by
  intro cur e
  injection e with e1 e2 e3
  exact h e2
end Go.Proofs.YtpmjbeiclmllmaaGreat.T3
