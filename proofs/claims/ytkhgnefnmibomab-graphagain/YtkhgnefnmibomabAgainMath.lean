/-
  Changes as cells; plain mathematics of changes one behind the other.
-/
import Derived.Test.YtkhgnefnmibomabChange
import Derived.Deep.RegionHeld3
namespace Go.Proofs.Ytkhgnefnmibomab
open Go.RowKit
theorem info49 : (Try.prog.info? 49).map (fun i => (i.zero, i.size, i.bytes)) = some (some (.agg #[.int .i64 0, .int .u32 0]), 2, 16) := by kernel_rfl
theorem info32 : (Try.prog.info? 32).map (fun i => (i.zero, i.size, i.bytes)) = some (some (.int .u32 0), 1, 4) := by kernel_rfl
/-- Changes as cells. -/
def cellsC : List Cg → List Value
  | [] => []
  | x :: r => .int .i64 x.a :: .int .u32 x.w :: cellsC r
theorem cellsC_len : ∀ l : List Cg, (cellsC l).length = l.length * 2
  | [] => rfl
  | x :: r => by simp only [cellsC, List.length_cons, cellsC_len r]; omega
theorem cellsC_append : ∀ l m : List Cg, cellsC (l ++ m) = cellsC l ++ cellsC m
  | [], _ => rfl
  | x :: r, m => by simp only [cellsC, List.cons_append, cellsC_append r m]
theorem cellsC_at : ∀ (l : List Cg) (j : Nat), j < l.length → (cellsC l)[j * 2]? = some (.int .i64 (l.getD j Cg.zero).a) ∧ (cellsC l)[j * 2 + 1]? = some (.int .u32 (l.getD j Cg.zero).w)
  | [], _, h => absurd h (by simp)
  | x :: r, 0, _ => ⟨rfl, rfl⟩
  | x :: r, j + 1, h => by
    have := cellsC_at r j (by simpa using h)
    rw [show (j + 1) * 2 = j * 2 + 2 by omega]
    exact this
theorem cellsC_one : ∀ (l : List Cg), ∀ u ∈ cellsC l, u.oneCell' = true
  | [], u, h => by cases h
  | x :: r, u, h => by
    simp only [cellsC, List.mem_cons] at h
    rcases h with rfl | rfl | h
    · rfl
    · rfl
    · exact cellsC_one r u h
theorem cgs_of_at {w : World} {b o : Nat} : ∀ (l : List Cg) (p : Nat), (∀ j, j < l.length → w.cell? ⟨b, o + (p + j) * 2, none⟩ = some (.int .i64 (l.getD j Cg.zero).a) ∧ w.cell? ⟨b, o + (p + j) * 2 + 1, none⟩ = some (.int .u32 (l.getD j Cg.zero).w)) → ∀ i u, (cellsC l)[i]? = some u → w.cell? ⟨b, o + p * 2 + i, none⟩ = some u
  | [], _, _, i, u, h => by simp [cellsC] at h
  | x :: r, p, ha, i, u, h => by
    have h0 := ha 0 (by simp)
    simp only [Nat.add_zero] at h0
    match i, h with
    | 0, h => simp [cellsC] at h; subst h; exact h0.1
    | 1, h => simp [cellsC] at h; subst h; exact h0.2
    | i + 2, h =>
      have := cgs_of_at r (p + 1) (fun j hj => by have := ha (j + 1) (by simpa using hj); rw [show p + (j + 1) = p + 1 + j by omega] at this; exact this) i u (by simpa [cellsC] using h)
      rw [show o + p * 2 + (i + 2) = o + (p + 1) * 2 + i by omega]
      exact this
theorem cgs_news {w : World} {ad : Addr} {l : List Cg} (h : Cgs w (some ad) l) : ∀ j u, (cellsC l)[j]? = some u → w.cell? (ad.add j) = some u := by
  intro j u hu
  rcases h with rfl | ⟨b, q, he, hb, hc⟩
  · simp [cellsC] at hu
  · cases he
    have := cgs_of_at (o := q) l 0 (fun j hj => by rw [Nat.zero_add]; exact hc j hj) j u hu
    rw [Go.WideShapes.add_plain]
    simpa using this
theorem cgs_own {w : World} {B g c : Nat} {l : List Cg} {n : Nat} (hn : n = l.length) (h : w.ownsRow B 49 2 (.slice (some ⟨g, 0, none⟩) n c) n (cellsC l)) : Cgs w (some ⟨g, 0, none⟩) l := by
  subst hn
  by_cases h0 : l = []
  · exact Or.inl h0
  · refine Or.inr ⟨g, 0, rfl, (World.ownsRow.lt h g rfl).2, fun j hj => ?_⟩
    obtain ⟨h1, h2⟩ := cellsC_at l j hj
    rw [Nat.zero_add]
    exact ⟨(World.ownsRow.cellAt h (j * 2) (by omega)).trans h1, (World.ownsRow.cellAt h (j * 2 + 1) (by omega)).trans h2⟩
/-- 'append(own, xs...)' where xs came in and may be nil or not. -/
theorem wp_app {w : World} {o : Oper} {a : Act} {K : Act → World → Prop} {Q : Exit → Act → World → Prop} (s x : Operand)
    (ho : o.op = .call { callee := .builtin .append, args := #[s, x], argTypes := #[25, 25] }) (base : Nat) (g n c : Nat) (xs : List Value) (hs : a.eval s = .slice (some ⟨g, 0, none⟩) n c) (hown : w.ownsRow base 49 2 (.slice (some ⟨g, 0, none⟩) n c) n xs)
    (a' : Option Addr) (l : List Cg) (cap : Nat) (hx : a.eval x = .slice a' l.length cap) (hn : a' = none → l = [] ∧ cap = 0) (hc : Cgs w a' l) (hb : (n + l.length) * 16 ≤ 140737488355328) (hbase : base ≤ w.heap.size)
    (h : ∀ g' c' w', w'.ownsRow base 49 2 (.slice (some ⟨g', 0, none⟩) (n + l.length) c') (n + l.length) (xs ++ cellsC l) → Below base w w' → (∀ (k : Nat) (ob : Obj), w.heap[k]? = some ob → (∀ cur, ob ≠ Obj.cells cur 49 (0, 0)) → w'.heap[k]? = some ob) → K (a.put o.dst (.slice (some ⟨g', 0, none⟩) (n + l.length) c')) w') : o.wp Try.prog a w K Q := by
  obtain ⟨i0, hi, hz0, hz1, hz2⟩ := info_parts info49
  match a', hn, hx, hc with
  | none, hn, hx, _ =>
    obtain ⟨e1, e2⟩ := hn rfl
    subst e1 e2
    have hrun := run_append_owned_none (P := Try.prog) (w := w) base 25 o.type 49 i0 2 Try.underlying25 hi _ n xs hown
    have hx' : a.eval x = .slice none 0 0 := hx
    unfold Oper.wp
    simp [execOp, ho, resolve, invoke, builtin, hs, hx', hrun, Result.andThen]
    have := h g c w (by simpa [cellsC] using hown) (Below.refl _ _) (fun _ _ h _ => h)
    have h' : K (a.put o.dst (.slice (some ⟨g, 0, none⟩) n c)) w := by simpa using this
    exact h'
  | some ad, _, hx, hc =>
    refine wp_append_own _ s x 25 ho base 49 i0 _ 2 16 Try.underlying25 hi hz0 hz1 hz2 rfl (by decide) _ n xs hs hown ad l.length cap (cellsC l) hx (cellsC_len l) (cgs_news hc) (cellsC_one l) (by unfold maxLen; omega) hb hbase ?_
    intro v' w' ho' hg' hn'
    obtain ⟨g', c', rfl, hg'', _, _, _⟩ := own_shape ho' (fun e => by have := (hn'.1 e).1; cases this)
    refine h g' c' w' ho' ((Below.refl base w).grown hg' hbase (by intro k hk; exact (hown.lt k hk).1)) (fun k ob hob ht => ?_)
    rw [hg'.block k (lt_of_block hob) ?_]
    · exact hob
    · intro he
      rcases hown.2 with ⟨h', _⟩ | ⟨g2, c2, cur, h', _, hg2, _⟩
      · cases h'
      · rw [h'] at he
        have e1 : k = g2 := by simpa [Value.ownBlock] using he
        subst e1
        rw [hg2] at hob
        exact ht cur (Option.some.inj hob).symm
theorem own_empty {w : World} {B g : Nat} (h : w.heap[g]? = some (.cells #[] 49 (0, 0))) (hB : B ≤ g) : w.ownsRow B 49 2 (.slice (some ⟨g, 0, none⟩) 0 0) 0 [] :=
  ⟨rfl, Or.inr ⟨g, 0, #[], rfl, hB, h, Nat.le_refl _, by decide, rfl, rfl⟩⟩
theorem not49 {c : Array Value} : ∀ cur, Obj.cells c 24 (0, 0) ≠ Obj.cells cur 49 (0, 0) := by
  intro cur e
  injection e with e1 e2 e3
  cases e2
theorem set_box {w : World} {g : Nat} {x y u v : Value} {t : TypeId} (h : w.heap[g]? = some (.cells #[x, y] t (0, 0))) : ((w.setCell ⟨g, 0, none⟩ u).setCell ⟨g, 1, none⟩ v).heap[g]? = some (.cells #[u, v] t (0, 0)) := by
  have hlt := lt_of_block h
  have h' : w.heap[g] = .cells #[x, y] t (0, 0) := by simpa [Array.getElem?_eq_getElem hlt] using h
  have h1 : (w.setCell ⟨g, 0, none⟩ u).heap[g]? = some (.cells #[u, y] t (0, 0)) := by
    show (w.heap.modify g _)[g]? = _
    rw [Array.getElem?_eq_getElem (by simpa using hlt), Array.getElem_modify_self, h']
    rfl
  have hlt1 := lt_of_block h1
  have h1' : (w.setCell ⟨g, 0, none⟩ u).heap[g] = .cells #[u, y] t (0, 0) := by simpa [Array.getElem?_eq_getElem hlt1] using h1
  show ((w.setCell ⟨g, 0, none⟩ u).heap.modify g _)[g]? = _
  rw [Array.getElem?_eq_getElem (by simpa using hlt1), Array.getElem_modify_self, h1']
  rfl
theorem chg_append (l : List A) (a b : List Cg) : chg l (a ++ b) = chg (chg l a) b := by unfold chg; rw [List.foldl_append]
theorem chg1_ends (l : List A) (c : Cg) (j : Nat) : ((chg1 l c).getD j A.zero).f = (l.getD j A.zero).f ∧ ((chg1 l c).getD j A.zero).t = (l.getD j A.zero).t := by
  unfold chg1
  by_cases hc : c.a.toNat < l.length
  · rw [getDA_set _ _ _ _ hc]
    split
    · rename_i e; rw [e]; exact ⟨rfl, rfl⟩
    · exact ⟨rfl, rfl⟩
  · rw [List.set_eq_of_length_le (by omega)]
    exact ⟨rfl, rfl⟩
theorem chg_ends : ∀ (cs : List Cg) (l : List A) (j : Nat), ((chg l cs).getD j A.zero).f = (l.getD j A.zero).f ∧ ((chg l cs).getD j A.zero).t = (l.getD j A.zero).t
  | [], _, _ => ⟨rfl, rfl⟩
  | c :: r, l, j => by
    have h1 := chg_ends r (chg1 l c) j
    have h2 := chg1_ends l c j
    exact ⟨h1.1.trans h2.1, h1.2.trans h2.2⟩
theorem all_getD {l : List A} {p : A → Bool} : l.all p = true ↔ ∀ j, j < l.length → p (l.getD j A.zero) = true := by
  rw [List.all_eq_true]
  constructor
  · intro h j hj
    rw [show l.getD j A.zero = l[j] by simp [List.getD, List.getElem?_eq_getElem hj]]
    exact h _ (List.getElem_mem hj)
  · intro h x hx
    obtain ⟨j, hj, rfl⟩ := List.getElem_of_mem hx
    have := h j hj
    rw [show l.getD j A.zero = l[j] by simp [List.getD, List.getElem?_eq_getElem hj]] at this
    exact this
theorem chk_chg (N : Int) (l : List A) (cs : List Cg) : chkE N (chg l cs) = chkE N l := by
  have : (chg l cs).all (okA N) = l.all (okA N) := by
    rw [Bool.eq_iff_iff, all_getD, all_getD, chg_len]
    constructor
    · intro h j hj
      have := h j hj
      unfold okA at this ⊢
      rw [(chg_ends cs l j).1, (chg_ends cs l j).2] at this
      exact this
    · intro h j hj
      have := h j hj
      unfold okA at this ⊢
      rw [(chg_ends cs l j).1, (chg_ends cs l j).2]
      exact this
  unfold chkE
  rw [chg_len, this]
theorem weigh_back (l : List A) (cs : List Cg) : weighed (chg l cs) (l.map A.w) = l := by
  have hl : (l.map A.w).length = (chg l cs).length := by rw [List.length_map, chg_len]
  apply ext_getD
  · rw [weighed_len hl, chg_len]
  · intro j hj
    rw [weighed_getD hl j (by rw [chg_len]; exact hj), (chg_ends cs l j).1, (chg_ends cs l j).2]
    have : (l.map A.w).getD j 0 = (l.getD j A.zero).w := by simp [List.getD, List.getElem?_eq_getElem hj]
    rw [this]
theorem cgE_zero {N : Int} {l : List A} {cs : List Cg} (h : cgE N l cs = 0) : chkE N l = 0 ∧ cs.length ≤ 16384 ∧ cs.all (cgOk l.length) = true := by
  unfold cgE at h
  split at h
  · split at h
    · cases h
    · split at h
      · rename_i h1 h2 h3
        exact ⟨h1, by omega, h3⟩
      · cases h
  · exact absurd h (by assumption)
theorem cgE_then {N : Int} {l : List A} {a b : List Cg} (h : cgE N l a = 0) (hs : a.length + b.length ≤ 16384) : cgE N (chg l a) b = cgE N l (a ++ b) := by
  obtain ⟨h1, h2, h3⟩ := cgE_zero h
  unfold cgE
  rw [chk_chg, if_pos h1, if_pos h1, chg_len, if_neg (show ¬ 16384 < b.length by omega), if_neg (show ¬ 16384 < (a ++ b).length by rw [List.length_append]; omega), List.all_append, h3, Bool.true_and]
end Go.Proofs.Ytkhgnefnmibomab
