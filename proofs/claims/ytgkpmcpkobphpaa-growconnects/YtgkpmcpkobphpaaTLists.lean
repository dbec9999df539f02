/-
  Contracts of the method add of a list, and of what goes through arcs and tells it members.
-/
import Derived.Test.YtgkpmcpkobphpaaTBase
namespace Go.Proofs.Ytgkpmcpkobphpaa.T3
open Go.RowKit
theorem info3 : (Try.prog.info? 3).map (fun i => (i.zero, i.size, i.bytes)) = some (some (.int .i64 0), 1, 8) := by kernel_rfl
/-- Numbers as cells. -/
def cellsI (l : List Int) : List Value := l.map (Value.int .i64)
theorem cellsI_len (l : List Int) : (cellsI l).length = l.length := by unfold cellsI; simp
theorem cellsI_snoc (l : List Int) (x : Int) : cellsI l ++ [.int .i64 x] = cellsI (l ++ [x]) := by unfold cellsI; simp
theorem cellsI_getD (xs : List Int) (k : Nat) (h : k < xs.length) : (cellsI xs)[k]? = some (.int .i64 (xs.getD k 0)) := by
  unfold cellsI
  simp [List.getD, List.getElem?_eq_getElem h]
theorem cellsI_set (xs : List Int) (k : Nat) (x : Int) : (cellsI xs).set k (.int .i64 x) = cellsI (xs.set k x) := by
  unfold cellsI
  rw [List.map_set]
theorem one_i64 (x : Int) : ∀ u ∈ [Value.int .i64 x], u.oneCell' = true := by intro u hu; simp at hu; subst hu; rfl
theorem own_shape {w : World} {base : Nat} {e : TypeId} {size : Nat} {v : Value} {n : Nat} {xs : List Value} (h : w.ownsRow base e size v n xs) (hn : v ≠ .slice none 0 0) : ∃ g c, v = .slice (some ⟨g, 0, none⟩) n c ∧ base ≤ g ∧ n ≤ c ∧ g < w.heap.size ∧ c ≤ 9223372036854775807 := by
  rcases h.2 with ⟨h', _⟩ | ⟨g, c, cur, h', hb, hg, hnc, hm, _⟩
  · exact absurd h' hn
  · exact ⟨g, c, h', hb, hnc, lt_of_block hg, hm⟩
/-- A list that is being filled: the variable in block m, what it holds, and where that lies. -/
def Filled (w : World) (m : Nat) (xs : List Int) : Prop := ∃ v, w.heap[m]? = some (.cells #[v] 74 (0, 0)) ∧ w.ownsRow (m + 1) 3 1 v xs.length (cellsI xs) ∧ (xs = [] → v = .slice none 0 0)
/-- What is kept while it is filled: all below the variable, and what is of another type. -/
def Kp (m : Nat) (w w' : World) : Prop := Below m w w' ∧ ∀ k o, w.heap[k]? = some o → k ≠ m → (∀ cur, o ≠ .cells cur 3 (0, 0)) → w'.heap[k]? = some o
theorem Kp.refl (m : Nat) (w : World) : Kp m w w := ⟨Below.refl _ _, fun _ _ h _ _ => h⟩
theorem Kp.trans {m : Nat} {a b c : World} (h : Kp m a b) (k : Kp m b c) : Kp m a c := ⟨h.1.trans k.1, fun i o ho hm ht => k.2 i o (h.2 i o ho hm ht) hm ht⟩
theorem Kp.of {m : Nat} {a b : World} (h : Below a.heap.size a b) (hm : m ≤ a.heap.size) : Kp m a b := ⟨h.mono hm, fun k _ ho _ _ => (h.block k (lt_of_block ho)).trans ho⟩
theorem Kp.alloc {m : Nat} {a b : World} (h : Kp m a b) (hm : m ≤ b.heap.size) (o : Obj) : Kp m a (b.alloc o) := h.trans (Kp.of ((Below.refl _ _).alloc (Nat.le_refl _) o) hm)
theorem Filled.lt {w : World} {m : Nat} {xs : List Int} (h : Filled w m xs) : m < w.heap.size := by obtain ⟨v, h, _⟩ := h; exact lt_of_block h
theorem Filled.alloc {w : World} {m : Nat} {xs : List Int} (h : Filled w m xs) (o : Obj) : Filled (w.alloc o) m xs := by
  obtain ⟨v, h1, h2, h3⟩ := h
  exact ⟨v, (Below.heap_alloc w o m (lt_of_block h1)).trans h1, h2.alloc o, h3⟩
set_option maxRecDepth 100000 in
set_option maxHeartbeats 400000 in
theorem add_any (m : Nat) (x : Int) (xs : List Int) (w : World) (hx : xs.length ≤ 8192) (hf : Filled w m xs) :
    Calls Try.prog 44 #[.pointer (some ⟨m, 0, none⟩), .int .i64 x] w fun e w' => e = .returned (.tuple #[]) ∧ Filled w' m (xs ++ [x]) ∧ Kp m w w' := by
  obtain ⟨i0, hi, hz0, hz1, hz2⟩ := info_parts info3
  obtain ⟨v, hm, hown, _⟩ := hf
  have hlt := lt_of_block hm
  have c0 := cell_of_one hm
  have hne : v.ownBlock ≠ some m := by
    intro h
    have := (hown.lt m h).1
    omega
  have HX : Hid ((cellsI xs ++ [Value.int .i64 x]) = cellsI (xs ++ [x])) := cellsI_snoc xs x
  have HN : Hid (xs.length + 1 = (xs ++ [x]).length) := by show _ = _; simp
  go_enter Try.func44, Try.ntmps44
  go_wp2_with (at_builtin; refine wpList_append_own _ rfl (.tmp 7) (.tmp 9) 74 rfl (m + 1) 3 i0 (.int .i64 0) 1 8 Try.underlying74 hi hz0 hz1 hz2 rfl (by decide) v xs.length (cellsI xs) rfl (hown.alloc _) ⟨w.heap.size, 0, none⟩ 1 1 [.int .i64 x] rfl rfl ?c1 (one_i64 x) (by unfold maxLen; omega) (by omega) (by simp; omega) ?_)
  case c1 =>
    intro j u hu
    match j, hu with
    | 0, hu => simp at hu; subst hu; simp [Addr.add]
  intro v1 w1 hown1 hgrow1 hnil1
  obtain ⟨g1, cc, rfl, hg1, hc1, hs1, hm1⟩ := own_shape hown1 hnil1
  rw [HX.out] at hown1
  have hm1' : w1.heap[m]? = some (.cells #[v] 74 (0, 0)) := (hgrow1.block m (by simp; omega) (fun h => hne h.symm)).trans ((Below.heap_alloc w _ m hlt).trans hm)
  have d0 := cell_of_one hm1'
  have d1 := free_of_one hm1'
  go_wp2_with fail
  go_end0
  have hset : ∀ k, k ≠ m → (w1.setCell ⟨m, 0, none⟩ (.slice (some ⟨g1, 0, none⟩) (xs.length + 1) cc)).heap[k]? = w1.heap[k]? := fun k hk => Below.heap_setCell w1 _ _ k hk
  have hb1 : Below m w w1 := ((Below.refl m w).alloc (by omega) _).grown hgrow1 (by simp; omega) (by intro k hk; have := (hown.lt k hk).1; omega)
  refine ⟨rfl, ⟨_, one_setCell hm1', ?_, fun h => by simp at h⟩, hb1.setCell (Nat.le_refl _) _, fun k o ho hk ht => ?_⟩
  · rw [← HN.out]
    exact ownsRow_setCell_below hown1 (a := ⟨m, 0, none⟩) (by simp) _
  · rw [hset k hk, hgrow1.block k (by have := lt_of_block ho; simp; omega) ?_, Below.heap_alloc w _ k (lt_of_block ho)]
    · exact ho
    · intro h
      rcases hown.2 with ⟨rfl, _⟩ | ⟨g, c, cur, rfl, _, hg, _⟩
      · simp [Value.ownBlock] at h
      · simp [Value.ownBlock] at h
        subst h
        rw [hg] at ho
        exact ht cur (Option.some.inj ho).symm
/-- The places that are hit, rising. -/
def hits (q : Nat → Bool) : Nat → List Int
  | 0 => []
  | k + 1 => if q k then hits q k ++ [(k : Int)] else hits q k
theorem hits_t {q : Nat → Bool} {k : Nat} (h : q k = true) : hits q (k + 1) = hits q k ++ [(k : Int)] := by rw [hits, if_pos h]
theorem hits_f {q : Nat → Bool} {k : Nat} (h : q k = false) : hits q (k + 1) = hits q k := by rw [hits, if_neg (by simp [h])]
theorem hits_len (q : Nat → Bool) (k : Nat) : (hits q k).length ≤ k := by
  induction k with
  | zero => simp [hits]
  | succ k ih =>
    unfold hits
    split
    · simp; omega
    · omega
/-- The arcs of a slice lie so in memory, below B. -/
def ArcsB (B : Nat) (w : World) (a : Option Addr) (l : List A) : Prop :=
  l = [] ∨ ∃ b o, a = some ⟨b, o, none⟩ ∧ b < B ∧ ∀ j, j < l.length → (l.getD j A.zero).at w b (o + j * 3)
theorem A.at.onB {x : A} {w w' : World} {b o B : Nat} (h : x.at w b o) (hl : b < B) (hb : Below B w w') : x.at w' b o :=
  ⟨(hb.cell hl).trans h.1, (hb.cell (p := ⟨b, o + 1, none⟩) hl).trans h.2.1, (hb.cell (p := ⟨b, o + 2, none⟩) hl).trans h.2.2⟩
theorem ArcsB.on {B : Nat} {w w' : World} {a : Option Addr} {l : List A} (h : ArcsB B w a l) (hb : Below B w w') : ArcsB B w' a l := by
  rcases h with h | ⟨b, o, rfl, hl, hc⟩
  · exact Or.inl h
  · exact Or.inr ⟨b, o, rfl, hl, fun j hj => (hc j hj).onB hl hb⟩
theorem ArcsB.up {B B' : Nat} {w : World} {a : Option Addr} {l : List A} (h : ArcsB B w a l) (hb : B ≤ B') : ArcsB B' w a l := by
  rcases h with h | ⟨b, o, rfl, hl, hc⟩
  · exact Or.inl h
  · exact Or.inr ⟨b, o, rfl, Nat.lt_of_lt_of_le hl hb, hc⟩
theorem Arcs.b {w : World} {a : Option Addr} {l : List A} (h : Arcs w a l) : ArcsB w.heap.size w a l := h
theorem ArcsB.a {B : Nat} {w : World} {a : Option Addr} {l : List A} (h : ArcsB B w a l) (hb : B ≤ w.heap.size) : Arcs w a l := h.up hb
theorem ArcsB.get {B : Nat} {w : World} {a : Option Addr} {l : List A} (h : ArcsB B w a l) : ∃ b o, 0 < l.length → a = some ⟨b, o, none⟩ ∧ b < B ∧ ∀ j, j < l.length → (l.getD j A.zero).at w b (o + j * 3) := by
  rcases h with rfl | ⟨b, o, h⟩
  · exact ⟨0, 0, fun h => absurd h (by simp)⟩
  · exact ⟨b, o, fun _ => h⟩
theorem not3 {t : TypeId} {c : Array Value} (h : t ≠ 3) : ∀ cur, Obj.cells c t (0, 0) ≠ .cells cur 3 (0, 0) := by
  intro cur e
  injection e with e1 e2 e3
  exact h e2
end Go.Proofs.Ytgkpmcpkobphpaa.T3
