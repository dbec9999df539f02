/-
  A nest in memory, and the levels that look makes of it.
-/
import Derived.Test.YtpmjbeiclmllmaaNsE
namespace Go.Proofs.Ytpmjbeiclmllmaa
open Go.RowKit
/-- A list of numbers as it lies. -/
structure Cl where
  a : Option Addr
  c : Nat
  xs : List Int
def Cl.zero : Cl := ⟨none, 0, []⟩
def Cl.val (x : Cl) : Value := .slice x.a x.xs.length x.c
def cl (C : List Cl) (j : Nat) : Cl := C.getD j Cl.zero
/-- Lists of numbers that lie in a list. -/
def Rws (w : World) (a : Option Addr) (C : List Cl) : Prop :=
  (C = [] ∨ ∃ b o, a = some ⟨b, o, none⟩ ∧ b < w.heap.size ∧ ∀ j, j < C.length → w.cell? ⟨b, o + j, none⟩ = some (cl C j).val) ∧ ∀ j, j < C.length → Ints w (cl C j).a (cl C j).xs ∧ (cl C j).xs.length ≤ 9223372036854775807
theorem Rws.on {w w' : World} {a : Option Addr} {C : List Cl} (h : Rws w a C) (hb : Below w.heap.size w w') : Rws w' a C := by
  refine ⟨?_, fun j hj => ⟨(h.2 j hj).1.on hb, (h.2 j hj).2⟩⟩
  rcases h.1 with h1 | ⟨b, o, h1, h2, h3⟩
  · exact .inl h1
  · exact .inr ⟨b, o, h1, Nat.lt_of_lt_of_le h2 hb.size, fun j hj => (hb.cell (p := ⟨b, o + j, none⟩) h2).trans (h3 j hj)⟩
theorem Rws.get {w : World} {a : Option Addr} {C : List Cl} (h : Rws w a C) : ∃ b o, 0 < C.length → a = some ⟨b, o, none⟩ ∧ b < w.heap.size ∧ ∀ j, j < C.length → w.cell? ⟨b, o + j, none⟩ = some (cl C j).val := by
  rcases h.1 with h1 | ⟨b, o, h1⟩
  · subst h1; exact ⟨0, 0, fun h => absurd h (by simp)⟩
  · exact ⟨b, o, fun _ => h1⟩
/-- The labels level by level. -/
def csl (C : List Cl) : List (List Int) := C.map Cl.xs
theorem csl_len (C : List Cl) : (csl C).length = C.length := by simp [csl]
theorem csl_at (C : List Cl) (j : Nat) : lvl (csl C) j = (cl C j).xs := by
  unfold lvl csl cl
  by_cases h : j < C.length
  · simp [List.getD, h]
  · simp [List.getD, h, Cl.zero]
/-- A level as it lies. -/
structure Lv where
  l : Cl
  s : Option Addr
  d : Nat
  b : Int
def Lv.zero : Lv := ⟨Cl.zero, none, 0, 0⟩
def Lv.sz (x : Lv) : Value := .slice x.s (szL x.l.xs).length x.d
def cellsL : List Lv → List Value
  | [] => []
  | x :: r => x.l.val :: x.sz :: .int .i64 x.b :: cellsL r
theorem cellsL_len : ∀ l : List Lv, (cellsL l).length = l.length * 3
  | [] => rfl
  | x :: r => by simp [cellsL, cellsL_len r]; omega
theorem cellsL_append : ∀ l m : List Lv, cellsL (l ++ m) = cellsL l ++ cellsL m
  | [], m => rfl
  | x :: r, m => by simp [cellsL, cellsL_append r m]
theorem cellsL_at : ∀ (l : List Lv) (j : Nat), j < l.length → (cellsL l)[j * 3]? = some (l.getD j Lv.zero).l.val ∧ (cellsL l)[j * 3 + 1]? = some (l.getD j Lv.zero).sz ∧ (cellsL l)[j * 3 + 2]? = some (.int .i64 (l.getD j Lv.zero).b)
  | [], _, h => absurd h (by simp)
  | x :: r, 0, _ => ⟨rfl, rfl, rfl⟩
  | x :: r, j + 1, h => by
    have := cellsL_at r j (by simpa using h)
    rw [show (j + 1) * 3 = j * 3 + 3 by omega]
    exact this
theorem cellsL_one : ∀ (l : List Lv), ∀ u ∈ cellsL l, u.oneCell' = true
  | [], u, h => by cases h
  | x :: r, u, h => by
    simp only [cellsL, List.mem_cons] at h
    rcases h with rfl | rfl | rfl | h
    · rfl
    · rfl
    · rfl
    · exact cellsL_one r u h
theorem newsL (w : World) (x : Lv) : ∀ j u, (cellsL [x])[j]? = some u → (w.alloc (.cells #[x.l.val, x.sz, .int .i64 x.b] 104)).cell? ((⟨w.heap.size, 0, none⟩ : Addr).add j) = some u := by
  intro j u hu
  have h := heap_top w (.cells #[x.l.val, x.sz, .int .i64 x.b] 104)
  rw [Go.WideShapes.add_plain, Nat.zero_add]
  generalize w.alloc (.cells #[x.l.val, x.sz, .int .i64 x.b] 104) = W at *
  generalize w.heap.size = b at *
  match j, hu with
  | 0, hu => simp [cellsL] at hu; subst hu; simp [World.cell?, h]
  | 1, hu => simp [cellsL] at hu; subst hu; simp [World.cell?, h]
  | 2, hu => simp [cellsL] at hu; subst hu; simp [World.cell?, h]
  | j + 3, hu => simp [cellsL] at hu
theorem info69 : (Try.prog.info? 104).map (fun i => (i.zero, i.size, i.bytes)) = some (some (.agg #[.slice none 0 0, .slice none 0 0, .int .i64 0]), 3, 56) := by kernel_rfl
/-- The levels of a nest lie at g. -/
def LvR (w : World) (g : Nat) (C : List Cl) (bs : List Int) : Prop :=
  g < w.heap.size ∧ ∀ j, j < bs.length → ∃ s d, w.cell? ⟨g, j * 3, none⟩ = some (cl C j).val ∧ w.cell? ⟨g, j * 3 + 1, none⟩ = some (.slice s (szL (cl C j).xs).length d) ∧ w.cell? ⟨g, j * 3 + 2, none⟩ = some (.int .i64 (bs.getD j 0)) ∧ Ints w s (ints (szL (cl C j).xs))
theorem LvR.on {w w' : World} {g : Nat} {C : List Cl} {bs : List Int} (h : LvR w g C bs) (hb : Below w.heap.size w w') : LvR w' g C bs := by
  refine ⟨Nat.lt_of_lt_of_le h.1 hb.size, fun j hj => ?_⟩
  obtain ⟨s, d, h1, h2, h3, h4⟩ := h.2 j hj
  exact ⟨s, d, (hb.cell (p := ⟨g, j * 3, none⟩) h.1).trans h1, (hb.cell (p := ⟨g, j * 3 + 1, none⟩) h.1).trans h2, (hb.cell (p := ⟨g, j * 3 + 2, none⟩) h.1).trans h3, h4.on hb⟩
/-- The levels that have been made so far. -/
def LvS (w : World) (B : Nat) (C : List Cl) (bs : List Int) (Ls : List Lv) : Prop :=
  ∀ j, j < Ls.length → (Ls.getD j Lv.zero).l = cl C j ∧ (Ls.getD j Lv.zero).b = bs.getD j 0 ∧ w.ownsRow B 3 1 (Ls.getD j Lv.zero).sz (szL (Ls.getD j Lv.zero).l.xs).length (cellsI (ints (szL (Ls.getD j Lv.zero).l.xs)))
theorem LvS.to {w : World} {B g c : Nat} {C : List Cl} {bs : List Int} {Ls : List Lv} (h : LvS w B C bs Ls) (hl : Ls.length = bs.length) (ho : w.ownsRow B 104 3 (.slice (some ⟨g, 0, none⟩) Ls.length c) Ls.length (cellsL Ls)) (h0 : 0 < Ls.length) : LvR w g C bs := by
  have hg : g < w.heap.size := by
    obtain ⟨g', c', h1, _, _, h3, _⟩ := own_shape ho (fun e => by injection e with _ e2 _; omega)
    injection h1 with h1 _ _
    injection h1 with h1
    injection h1 with h1 _ _
    omega
  refine ⟨hg, fun j hj => ?_⟩
  obtain ⟨a1, a2, a3⟩ := h j (by omega)
  obtain ⟨b1, b2, b3⟩ := cellsL_at Ls j (by omega)
  rw [a1] at b1 a3
  rw [a2] at b3
  have e2 : (Ls.getD j Lv.zero).sz = .slice (Ls.getD j Lv.zero).s (szL (cl C j).xs).length (Ls.getD j Lv.zero).d := by unfold Lv.sz; rw [a1]
  rw [e2] at b2 a3
  exact ⟨_, _, (World.ownsRow.cellAt ho (j * 3) (by omega)).trans b1, (World.ownsRow.cellAt ho (j * 3 + 1) (by omega)).trans b2, (World.ownsRow.cellAt ho (j * 3 + 2) (by omega)).trans b3, own_ints a3 rfl⟩
theorem own_kept {w w' : World} {b1 b2 : Nat} {e1 e2 : TypeId} {s1 s2 : Nat} {v1 v2 : Value} {n1 n2 : Nat} {x1 x2 : List Value} (h1 : w.ownsRow b1 e1 s1 v1 n1 x1) (h2 : w.ownsRow b2 e2 s2 v2 n2 x2) (he : e1 ≠ e2) (hg : w.grownBy w' v2.ownBlock) : w'.ownsRow b1 e1 s1 v1 n1 x1 := by
  refine h1.kept hg ?_
  rcases h1.2 with ⟨rfl, _⟩ | ⟨g, c, cur, rfl, _, hg1, _⟩
  · exact .inl rfl
  · refine .inr fun e => ?_
    rcases h2.2 with ⟨rfl, _⟩ | ⟨g2, c2, cur2, rfl, _, hg2, _⟩
    · cases e
    · injection e with e
      subst e
      rw [hg1] at hg2
      injection hg2 with hg2
      injection hg2 with _ hg2
      exact he hg2

theorem LvS.map {w w' : World} {B : Nat} {C : List Cl} {bs : List Int} {Ls : List Lv} (h : LvS w B C bs Ls) (f : ∀ v n xs, w.ownsRow B 3 1 v n xs → w'.ownsRow B 3 1 v n xs) : LvS w' B C bs Ls := fun j hj => ⟨(h j hj).1, (h j hj).2.1, f _ _ _ (h j hj).2.2⟩
theorem LvS.snoc {w : World} {B : Nat} {C : List Cl} {bs : List Int} {Ls : List Lv} (h : LvS w B C bs Ls) {x : Lv} (hl : x.l = cl C Ls.length) (hb : x.b = bs.getD Ls.length 0) (ho : w.ownsRow B 3 1 x.sz (szL x.l.xs).length (cellsI (ints (szL x.l.xs)))) : LvS w B C bs (Ls ++ [x]) := fun j hj => by
  rw [List.length_append] at hj
  simp only [List.length_cons, List.length_nil] at hj
  by_cases e : j = Ls.length
  · subst e
    have e2 : (Ls ++ [x]).getD Ls.length Lv.zero = x := by simp [List.getD]
    rw [e2]
    exact ⟨hl, hb, ho⟩
  · have e2 : (Ls ++ [x]).getD j Lv.zero = Ls.getD j Lv.zero := by simp [List.getD, List.getElem?_append_left (show j < Ls.length by omega)]
    rw [e2]
    exact h j (by omega)
theorem drop_getC {cs : List (List Int)} {k : Nat} (h : k < cs.length) : cs.drop k = lvl cs k :: cs.drop (k + 1) := by
  rw [List.drop_eq_getElem_cons h]
  simp [lvl, List.getD, List.getElem?_eq_getElem h]
end Go.Proofs.Ytpmjbeiclmllmaa
