/-
  The reference's net: one list of letters, one of timers; how it lies in memory.
-/
import Derived.Test.YtfhlfklgngpklaaTot
namespace Go.Proofs.Ytfhlfklgngpklaa
open Go.RowKit Go.Maps
/-- A letter that is on its way. -/
structure Lt where
  p : Pr
  s : ByteArray
/-- The reference's net. -/
structure RS where
  up : List Bool
  ls : List Lt
  tm : List Tm
  now : Int
def ltV (x : Lt) : List Value := [.int .i64 x.p.a, .int .i64 x.p.b, .string x.s]
def ltC : List Lt → List Value
  | [] => []
  | x :: r => .int .i64 x.p.a :: .int .i64 x.p.b :: .string x.s :: ltC r
theorem ltC_len : ∀ (l : List Lt), (ltC l).length = l.length * 3
  | [] => rfl
  | _ :: r => by simp only [ltC, List.length_cons, ltC_len r]; omega
theorem ltC_append : ∀ (l m : List Lt), ltC (l ++ m) = ltC l ++ ltC m
  | [], m => rfl
  | _ :: r, m => by simp only [List.cons_append, ltC, ltC_append r m]
theorem ltC_one : ∀ (l : List Lt), ∀ u ∈ ltC l, u.oneCell' = true
  | [], u, h => by cases h
  | x :: r, u, h => by
    simp only [ltC, List.mem_cons] at h
    rcases h with rfl | rfl | rfl | h
    · rfl
    · rfl
    · rfl
    · exact ltC_one r u h
theorem ltC_take : ∀ (l : List Lt) (i : Nat), (ltC l).take (i * 3) = ltC (l.take i)
  | [], i => by simp [ltC]
  | x :: r, 0 => rfl
  | x :: r, i + 1 => by
    rw [show (i + 1) * 3 = i * 3 + 1 + 1 + 1 by omega]
    simp only [ltC, List.take_succ_cons, ltC_take r i]
theorem ltC_drop : ∀ (l : List Lt) (i : Nat), (ltC l).drop (i * 3) = ltC (l.drop i)
  | [], i => by simp [ltC]
  | x :: r, 0 => rfl
  | x :: r, i + 1 => by
    rw [show (i + 1) * 3 = i * 3 + 1 + 1 + 1 by omega]
    simp only [ltC, List.drop_succ_cons, ltC_drop r i]
theorem ltC_at : ∀ (l : List Lt) (j : Nat) (h : j < l.length), (ltC l)[j * 3]? = some (.int .i64 (l[j]).p.a) ∧ (ltC l)[j * 3 + 1]? = some (.int .i64 (l[j]).p.b) ∧ (ltC l)[j * 3 + 2]? = some (.string (l[j]).s)
  | [], j, h => by cases h
  | x :: r, 0, h => ⟨rfl, rfl, rfl⟩
  | x :: r, j + 1, h => by
    have := ltC_at r j (by simpa using h)
    rw [show (j + 1) * 3 = j * 3 + 1 + 1 + 1 by omega]
    simpa [ltC] using this
/-- The reference's net lies so. -/
structure RM (w : World) (r : Nat) (uv lv tv : Value) (R : RS) : Prop where
  hd : w.heap[r]? = some (.cells #[uv, lv, tv, .int .i64 R.now] 62 (0, 0))
  uo : w.ownsRow 0 4 1 uv R.up.length (boolsC R.up)
  lo : w.ownsRow 0 89 3 lv R.ls.length (ltC R.ls)
  to_ : w.ownsRow 0 53 3 tv R.tm.length (tmC R.tm)
def Dr (r : Nat) (uv lv tv : Value) (k : Nat) : Prop := k = r ∨ uv.ownBlock = some k ∨ lv.ownBlock = some k ∨ tv.ownBlock = some k
def RK (w : World) (r : Nat) (R : RS) (D : Nat → Prop) : Prop := ∃ uv lv tv, RM w r uv lv tv R ∧ D = Dr r uv lv tv
def RTo (w w' : World) (r : Nat) (R : RS) (D : Nat → Prop) : Prop := ∃ D', RK w' r R D' ∧ (∀ k, D' k → D k ∨ w.heap.size ≤ k) ∧ Fr D w w'
/-- A row's block holds its type. -/
theorem own_type {w : World} {b : Nat} {e : TypeId} {s n : Nat} {v : Value} {xs : List Value} (h : w.ownsRow b e s v n xs) {k : Nat} (hk : v.ownBlock = some k) : ∃ cur, w.heap[k]? = some (.cells cur e (0, 0)) := by
  rcases h.2 with ⟨rfl, _⟩ | ⟨g, c, cur, rfl, _, hb, _⟩
  · cases hk
  · injection hk with hk
    subst hk
    exact ⟨cur, hb⟩
theorem type_ne {w : World} {k : Nat} {c c' : Array Value} {t t' : TypeId} {z z' : Nat × Nat} (h : w.heap[k]? = some (.cells c t z)) (h' : w.heap[k]? = some (.cells c' t' z')) : t = t' := by
  rw [h] at h'
  injection h' with h'
  injection h'
section
variable {w w' : World} {r : Nat} {uv lv tv : Value} {R : RS} {D : Nat → Prop}
theorem RM.lt (h : RM w r uv lv tv R) : ∀ k, Dr r uv lv tv k → k < w.heap.size := by
  rintro k (rfl | hk | hk | hk)
  · exact lt_of_block h.hd
  · exact (h.uo.lt k hk).2
  · exact (h.lo.lt k hk).2
  · exact (h.to_.lt k hk).2
theorem RM.same (h : RM w r uv lv tv R) (hs : ∀ k, Dr r uv lv tv k → w'.heap[k]? = w.heap[k]?) : RM w' r uv lv tv R :=
  ⟨(hs r (Or.inl rfl)).trans h.hd, ownsRow_same h.uo (fun k hk => hs k (Or.inr (Or.inl hk))), ownsRow_same h.lo (fun k hk => hs k (Or.inr (Or.inr (Or.inl hk)))), ownsRow_same h.to_ (fun k hk => hs k (Or.inr (Or.inr (Or.inr hk))))⟩
theorem RM.on (h : RM w r uv lv tv R) (hb : Below w.heap.size w w') : RM w' r uv lv tv R := h.same (fun k hk => hb.block k (h.lt k hk))
theorem RK.lt (h : RK w r R D) : ∀ k, D k → k < w.heap.size := by
  obtain ⟨uv, lv, tv, h, rfl⟩ := h
  exact h.lt
theorem RK.same (h : RK w r R D) (hs : ∀ k, D k → w'.heap[k]? = w.heap[k]?) : RK w' r R D := by
  obtain ⟨uv, lv, tv, h, rfl⟩ := h
  exact ⟨uv, lv, tv, h.same hs, rfl⟩
theorem RK.on (h : RK w r R D) (hb : Below w.heap.size w w') : RK w' r R D := h.same (fun k hk => hb.block k (h.lt k hk))
theorem RK.fr {D' : Nat → Prop} (h : RK w r R D) (f : Fr D' w w') (hd : ∀ k, D k → ¬ D' k) : RK w' r R D := h.same (fun k hk => f.block k (h.lt k hk) (hd k hk))
theorem RK.self (h : RK w r R D) : RTo w w r R D := ⟨D, h, fun _ hk => Or.inl hk, Fr.refl _ _⟩
theorem RK.to (h : RK w r R D) (hb : Below w.heap.size w w') : RTo w w' r R D := ⟨D, h.on hb, fun _ hk => Or.inl hk, Fr.of hb⟩
theorem RTo.after {w1 : World} {R' : RS} {D1 : Nat → Prop} (h : RTo w1 w' r R' D1) (h1 : ∀ k, D1 k → D k ∨ w.heap.size ≤ k) (f : Fr D w w1) : RTo w w' r R' D := by
  obtain ⟨D', a, b, c⟩ := h
  refine ⟨D', a, fun k hk => ?_, f.trans c h1⟩
  rcases b k hk with h' | h'
  · exact h1 k h'
  · exact Or.inr (Nat.le_trans f.size h')
/-- The blocks lie apart, by what they hold. -/
theorem RM.apart (h : RM w r uv lv tv R) : (∀ k, uv.ownBlock = some k → k ≠ r ∧ lv.ownBlock ≠ some k ∧ tv.ownBlock ≠ some k) ∧ (∀ k, lv.ownBlock = some k → k ≠ r ∧ uv.ownBlock ≠ some k ∧ tv.ownBlock ≠ some k) ∧ (∀ k, tv.ownBlock = some k → k ≠ r ∧ uv.ownBlock ≠ some k ∧ lv.ownBlock ≠ some k) := by
  have t1 : ∀ k, uv.ownBlock = some k → ∃ cur, w.heap[k]? = some (.cells cur 4 (0, 0)) := fun k hk => own_type h.uo hk
  have t2 : ∀ k, lv.ownBlock = some k → ∃ cur, w.heap[k]? = some (.cells cur 89 (0, 0)) := fun k hk => own_type h.lo hk
  have t3 : ∀ k, tv.ownBlock = some k → ∃ cur, w.heap[k]? = some (.cells cur 53 (0, 0)) := fun k hk => own_type h.to_ hk
  refine ⟨fun k hk => ?_, fun k hk => ?_, fun k hk => ?_⟩
  · obtain ⟨c, e⟩ := t1 k hk
    refine ⟨fun e' => ?_, fun e' => ?_, fun e' => ?_⟩
    · subst e'; exact absurd (type_ne e h.hd) (by decide)
    · obtain ⟨c', e2⟩ := t2 k e'; exact absurd (type_ne e e2) (by decide)
    · obtain ⟨c', e2⟩ := t3 k e'; exact absurd (type_ne e e2) (by decide)
  · obtain ⟨c, e⟩ := t2 k hk
    refine ⟨fun e' => ?_, fun e' => ?_, fun e' => ?_⟩
    · subst e'; exact absurd (type_ne e h.hd) (by decide)
    · obtain ⟨c', e2⟩ := t1 k e'; exact absurd (type_ne e e2) (by decide)
    · obtain ⟨c', e2⟩ := t3 k e'; exact absurd (type_ne e e2) (by decide)
  · obtain ⟨c, e⟩ := t3 k hk
    refine ⟨fun e' => ?_, fun e' => ?_, fun e' => ?_⟩
    · subst e'; exact absurd (type_ne e h.hd) (by decide)
    · obtain ⟨c', e2⟩ := t1 k e'; exact absurd (type_ne e e2) (by decide)
    · obtain ⟨c', e2⟩ := t2 k e'; exact absurd (type_ne e e2) (by decide)
theorem setR {w : World} {r i : Nat} {cs : Array Value} (hd : w.heap[r]? = some (.cells cs 62 (0, 0))) (v : Value) : (w.setCell ⟨r, i, none⟩ v).heap[r]? = some (.cells (cs.setIfInBounds i v) 62 (0, 0)) := by
  rw [setCell_eq_setRow w r i cs 62 (0, 0) v hd, setRow_heap w r cs _ 62 (0, 0) hd]
theorem setO (w : World) {r i k : Nat} (v : Value) (h : k ≠ r) : (w.setCell ⟨r, i, none⟩ v).heap[k]? = w.heap[k]? := Below.heap_setCell w _ v k h
/-- A new list of letters. -/
theorem RM.newL {l' : List Lt} {v' : Value} (h : RM w r uv lv tv R) (hf : Fr (fun k => lv.ownBlock = some k) w w') (ho : w'.ownsRow 0 89 3 v' l'.length (ltC l')) (hv : ∀ k, v'.ownBlock = some k → lv.ownBlock = some k ∨ w.heap.size ≤ k) :
    RTo w (w'.setCell ⟨r, 1, none⟩ v') r { R with ls := l' } (Dr r uv lv tv) := by
  obtain ⟨a1, a2, a3⟩ := h.apart
  have hrl := lt_of_block h.hd
  have hd' : w'.heap[r]? = some (.cells #[uv, lv, tv, .int .i64 R.now] 62 (0, 0)) := (hf.block r hrl (fun e => (a2 r e).1 rfl)).trans h.hd
  have hne : v'.ownBlock ≠ some r := fun e => by
    obtain ⟨c, e2⟩ := own_type ho e
    exact absurd (type_ne e2 hd') (by decide)
  refine ⟨Dr r uv v' tv, ⟨uv, v', tv, ⟨?_, ?_, ?_, ?_⟩, rfl⟩, ?_, (hf.mono (fun k hk => Or.inr (Or.inr (Or.inl hk)))).setCell _ _ (Or.inl (Or.inl rfl))⟩
  · rw [setR hd']
    rfl
  · exact ownsRow_same h.uo (fun k hk => (setO w' _ (a1 k hk).1).trans (hf.block k (h.uo.lt k hk).2 (a1 k hk).2.1))
  · exact ownsRow_same ho (fun k hk => setO w' _ (fun e => hne (by rw [hk, e])))
  · exact ownsRow_same h.to_ (fun k hk => (setO w' _ (a3 k hk).1).trans (hf.block k (h.to_.lt k hk).2 (a3 k hk).2.2))
  · rintro k (rfl | hk | hk | hk)
    · exact Or.inl (Or.inl rfl)
    · exact Or.inl (Or.inr (Or.inl hk))
    · rcases hv k hk with e | e
      · exact Or.inl (Or.inr (Or.inr (Or.inl e)))
      · exact Or.inr e
    · exact Or.inl (Or.inr (Or.inr (Or.inr hk)))
/-- A new list of timers. -/
theorem RM.newT {l' : List Tm} {v' : Value} (h : RM w r uv lv tv R) (hf : Fr (fun k => tv.ownBlock = some k) w w') (ho : w'.ownsRow 0 53 3 v' l'.length (tmC l')) (hv : ∀ k, v'.ownBlock = some k → tv.ownBlock = some k ∨ w.heap.size ≤ k) :
    RTo w (w'.setCell ⟨r, 2, none⟩ v') r { R with tm := l' } (Dr r uv lv tv) := by
  obtain ⟨a1, a2, a3⟩ := h.apart
  have hrl := lt_of_block h.hd
  have hd' : w'.heap[r]? = some (.cells #[uv, lv, tv, .int .i64 R.now] 62 (0, 0)) := (hf.block r hrl (fun e => (a3 r e).1 rfl)).trans h.hd
  have hne : v'.ownBlock ≠ some r := fun e => by
    obtain ⟨c, e2⟩ := own_type ho e
    exact absurd (type_ne e2 hd') (by decide)
  refine ⟨Dr r uv lv v', ⟨uv, lv, v', ⟨?_, ?_, ?_, ?_⟩, rfl⟩, ?_, (hf.mono (fun k hk => Or.inr (Or.inr (Or.inr hk)))).setCell _ _ (Or.inl (Or.inl rfl))⟩
  · rw [setR hd']
    rfl
  · exact ownsRow_same h.uo (fun k hk => (setO w' _ (a1 k hk).1).trans (hf.block k (h.uo.lt k hk).2 (a1 k hk).2.2))
  · exact ownsRow_same h.lo (fun k hk => (setO w' _ (a2 k hk).1).trans (hf.block k (h.lo.lt k hk).2 (a2 k hk).2.2))
  · exact ownsRow_same ho (fun k hk => setO w' _ (fun e => hne (by rw [hk, e])))
  · rintro k (rfl | hk | hk | hk)
    · exact Or.inl (Or.inl rfl)
    · exact Or.inl (Or.inr (Or.inl hk))
    · exact Or.inl (Or.inr (Or.inr (Or.inl hk)))
    · rcases hv k hk with e | e
      · exact Or.inl (Or.inr (Or.inr (Or.inr e)))
      · exact Or.inr e
/-- The clock. -/
theorem RM.clock (h : RM w r uv lv tv R) (x : Int) : RM (w.setCell ⟨r, 3, none⟩ (.int .i64 x)) r uv lv tv { R with now := x } ∧ Fr (Dr r uv lv tv) w (w.setCell ⟨r, 3, none⟩ (.int .i64 x)) := by
  obtain ⟨a1, a2, a3⟩ := h.apart
  refine ⟨⟨?_, ?_, ?_, ?_⟩, (Fr.refl _ _).setCell _ _ (Or.inl (Or.inl rfl))⟩
  · rw [setR h.hd]
    rfl
  · exact ownsRow_same h.uo (fun k hk => setO w _ (a1 k hk).1)
  · exact ownsRow_same h.lo (fun k hk => setO w _ (a2 k hk).1)
  · exact ownsRow_same h.to_ (fun k hk => setO w _ (a3 k hk).1)
/-- A letter of the list. -/
theorem RM.letter (h : RM w r uv lv tv R) (j : Nat) (hj : j < R.ls.length) : ∃ g c, lv = .slice (some ⟨g, 0, none⟩) R.ls.length c ∧ w.cell? ⟨g, j * 3, none⟩ = some (.int .i64 (R.ls[j]).p.a) ∧ w.cell? ⟨g, j * 3 + 1, none⟩ = some (.int .i64 (R.ls[j]).p.b) ∧ w.cell? ⟨g, j * 3 + 2, none⟩ = some (.string (R.ls[j]).s) := by
  obtain ⟨g, c, e⟩ := own_form h.lo (by omega)
  subst e
  obtain ⟨c0, c1, c2⟩ := ltC_at R.ls j hj
  exact ⟨g, c, rfl, (h.lo.cellAt (j * 3) (by omega)).trans c0, (h.lo.cellAt (j * 3 + 1) (by omega)).trans c1, (h.lo.cellAt (j * 3 + 2) (by omega)).trans c2⟩
end
end Go.Proofs.Ytfhlfklgngpklaa
