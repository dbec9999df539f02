/-
  An arc more: mathematics; append of arcs within a statement whose order is drawn.
-/
import Derived.Test.YtomlmphdnoempabWks
import Derived.Laws.AppendOwnNone
namespace Go.Proofs.Ytomlmphdnoempab
open Go.RowKit
theorem Wk.more {l m : List A} {s v : Nat} {d : Int} (h : Wk l Al s v d) (hs : ∀ x ∈ l, x ∈ m) : Wk m Al s v d := by
  induction h with
  | nil _ => exact Wk.nil rfl
  | snoc hx _ _ ih => exact Wk.snoc (hs _ hx) ih rfl
theorem Wk.then {l : List A} {s u v : Nat} {d e : Int} (h : Wk l Al s u d) (k : Wk l Al u v e) : Wk l Al s v (d + e) := by
  induction k with
  | nil _ => rw [Int.add_zero]; exact h
  | @snoc x e hx _ _ ih =>
    rw [← Int.add_assoc]
    exact Wk.snoc hx ih rfl
theorem Wk.lo {l : List A} {s v : Nat} {d : Int} (h : Wk l Al s v d) (hw : ∀ x ∈ l, 0 ≤ x.w) : 0 ≤ d := by
  induction h with
  | nil _ => omega
  | snoc hx _ _ ih => have := hw _ hx; omega
/-- A walk over one arc more goes without it, or over it. -/
theorem Wk.split {l : List A} {x : A} {s v : Nat} {d : Int} (h : Wk (l ++ [x]) Al s v d) (hw : ∀ y ∈ l, 0 ≤ y.w) (hx : 0 ≤ x.w) :
    (∃ e, Wk l Al s v e ∧ e ≤ d) ∨ ∃ e1 e2, Wk l Al s (src x) e1 ∧ Wk l Al (dst x) v e2 ∧ e1 + x.w + e2 ≤ d := by
  induction h with
  | nil _ => exact Or.inl ⟨0, Wk.nil rfl, Int.le_refl _⟩
  | @snoc y d hy _ _ ih =>
    rw [List.mem_append] at hy
    rcases hy with hy | hy
    · rcases ih with ⟨e, h1, h2⟩ | ⟨e1, e2, h1, h2, h3⟩
      · exact Or.inl ⟨e + y.w, Wk.snoc hy h1 rfl, by omega⟩
      · exact Or.inr ⟨e1, e2 + y.w, h1, Wk.snoc hy h2 rfl, by omega⟩
    · simp at hy
      subst hy
      rcases ih with ⟨e, h1, h2⟩ | ⟨e1, e2, h1, h2, h3⟩
      · exact Or.inr ⟨e, 0, h1, Wk.nil rfl, by omega⟩
      · have := h2.lo hw
        exact Or.inr ⟨e1, 0, h1, Wk.nil rfl, by omega⟩
/-- How far over the arc. -/
def over (F Y : Nat → Int) (x : A) (v : Nat) : Int := if F (src x) < Inf ∧ Y v < Inf then F (src x) + x.w + Y v else Inf
theorem more_eq {l : List A} {x : A} {s : Nat} {F Y G : Nat → Int} (hw : ∀ y ∈ l, 0 ≤ y.w) (hx : 0 ≤ x.w) (hF : IsD l Al s F) (hY : IsD l Al (dst x) Y) (hG : IsD (l ++ [x]) Al s G) (v : Nat) : G v = minI (F v) (over F Y x v) := by
  have h1 : G v ≤ F v := by
    by_cases e : F v < Inf
    · exact hG.le v _ ((hF.wk v e).more (fun y hy => List.mem_append_left _ hy))
    · have := hG.hi v; omega
  have h2 : G v ≤ over F Y x v := by
    unfold over
    split
    · rename_i e
      have w1 := (hF.wk _ e.1).more (m := l ++ [x]) (fun y hy => List.mem_append_left _ hy)
      have w2 := (hY.wk _ e.2).more (m := l ++ [x]) (fun y hy => List.mem_append_left _ hy)
      exact hG.le v _ ((Wk.snoc (by simp) w1 rfl).then w2)
    · exact hG.hi v
  have h3 : F v ≤ G v ∨ over F Y x v ≤ G v := by
    by_cases e : G v < Inf
    · rcases (hG.wk v e).split hw hx with ⟨d, k1, k2⟩ | ⟨e1, e2, k1, k2, k3⟩
      · have := hF.le v d k1; exact Or.inl (by omega)
      · have a1 := hF.le _ _ k1
        have a2 := hY.le _ _ k2
        have a3 := k1.lo hw
        have a4 := k2.lo hw
        refine Or.inr ?_
        unfold over
        rw [if_pos ⟨by omega, by omega⟩]
        omega
    · have := hF.hi v
      exact Or.inl (by omega)
  unfold minI
  split <;> omega
/-- A literal of no arcs. -/
theorem lit_own {w : World} {base g : Nat} (h : w.heap[g]? = some (.cells #[] 40)) (hb : base ≤ g) : w.ownsRow base 40 3 (.slice (some ⟨g, 0, none⟩) 0 0) 0 [] := by
  refine ⟨rfl, Or.inr ⟨g, 0, #[], rfl, hb, h, Nat.le_refl _, by decide, rfl, rfl⟩⟩
/-- append of the arcs of a graph to none. -/
theorem wp_arcs {w : World} {o : Oper} {a : Act} {K : Act → World → Prop} {Q : Exit → Act → World → Prop} (s x : Operand)
    (ho : o.op = .call { callee := .builtin .append, args := #[s, x], argTypes := #[22, 22] }) (base g : Nat) (hs : a.eval s = .slice (some ⟨g, 0, none⟩) 0 0) (hg : w.heap[g]? = some (.cells #[] 40)) (hbg : base ≤ g)
    (a' : Option Addr) (l : List A) (cap : Nat) (hx : a.eval x = .slice a' l.length cap) (hn : a' = none → l = [] ∧ cap = 0) (hc : Arcs w a' l) (hb : l.length ≤ 8192) (hbase : base ≤ w.heap.size)
    (h : ∀ g' c' w', OwnA w' base (some ⟨g', 0, none⟩) c' l → (∀ k, k < w.heap.size → k ≠ g → w'.heap[k]? = w.heap[k]?) → w.heap.size ≤ w'.heap.size → Below base w w' → K (a.put o.dst (.slice (some ⟨g', 0, none⟩) l.length c')) w') : o.wp Try.prog a w K Q := by
  obtain ⟨i0, hi, hz0, hz1, hz2⟩ := info_parts info53
  have hown := lit_own hg hbg
  match a', hn, hx, hc with
  | none, hn, hx, _ =>
    obtain ⟨e1, e2⟩ := hn rfl
    subst e1 e2
    have hrun := run_append_owned_none (P := Try.prog) (w := w) base 22 o.type 40 i0 3 Try.underlying22 hi _ 0 [] hown
    have hx' : a.eval x = .slice none 0 0 := hx
    unfold Oper.wp
    simp [execOp, ho, resolve, invoke, builtin, hs, hx', hrun, Result.andThen]
    exact h g 0 w hown (fun _ _ _ => rfl) (Nat.le_refl _) (Below.refl _ _)
  | some ad, _, hx, hc =>
    refine wp_append_own _ s x 22 ho base 40 i0 _ 3 24 Try.underlying22 hi hz0 hz1 hz2 rfl (by decide) _ 0 [] hs hown ad l.length cap (cellsA l) hx (cellsA_len l) ?_ (cellsA_one l) (by unfold maxLen; omega) (by omega) hbase ?_
    · intro j u hu
      have := clone_news hc (.cells #[] 40) j u hu
      have hlt : (ad.add j).block < w.heap.size := by
        rcases hc with rfl | ⟨b, o', hab, hl, _⟩
        · simp [cellsA] at hu
        · cases hab; rw [Go.WideShapes.add_plain]; exact hl
      have e := (World.cell?_of_block (a := ad.add j) (Below.heap_alloc w (.cells #[] 40) _ hlt))
      exact e.symm.trans this
    · intro v' w' ho' hg' hn'
      obtain ⟨g', c', rfl, hg'', _, hlt, _⟩ := own_shape ho' (fun e => by have := (hn'.1 e).1; cases this)
      simp only [Nat.zero_add, List.nil_append] at ho' ⊢
      refine h g' c' w' ho' (fun k hk hne => hg'.block k hk (fun e => hne (by cases e; rfl))) hg'.size ((Below.refl base w).grown hg' hbase (by intro k hk; exact (hown.lt k hk).1))
/-- append of one arc more. -/
theorem wp_arc1 {w : World} {o : Oper} {a : Act} {K : Act → World → Prop} {Q : Exit → Act → World → Prop} (s x : Operand)
    (ho : o.op = .call { callee := .builtin .append, args := #[s, x], argTypes := #[22, 22] }) (base g c : Nat) (l : List A) (hs : a.eval s = .slice (some ⟨g, 0, none⟩) l.length c) (hown : OwnA w base (some ⟨g, 0, none⟩) c l)
    (gx : Nat) (y : A) (hx : a.eval x = .slice (some ⟨gx, 0, none⟩) 1 1) (hgx : w.heap[gx]? = some (.cells #[.int .i64 y.f, .int .i64 y.t, .int .u32 y.w] 40)) (hb : l.length ≤ 8192) (hbase : base ≤ w.heap.size)
    (h : ∀ g' c' w', OwnA w' base (some ⟨g', 0, none⟩) c' (l ++ [y]) → (∀ k, k < w.heap.size → k ≠ g → w'.heap[k]? = w.heap[k]?) → w.heap.size ≤ w'.heap.size → Below base w w' → K (a.put o.dst (.slice (some ⟨g', 0, none⟩) (l.length + 1) c')) w') : o.wp Try.prog a w K Q := by
  obtain ⟨i0, hi, hz0, hz1, hz2⟩ := info_parts info53
  obtain ⟨x0, x1, x2⟩ := three_cells hgx
  refine wp_append_own _ s x 22 ho base 40 i0 _ 3 24 Try.underlying22 hi hz0 hz1 hz2 rfl (by decide) _ l.length (cellsA l) hs hown ⟨gx, 0, none⟩ 1 1 (cellsA [y]) hx rfl ?_ (cellsA_one _) (by unfold maxLen; omega) (by omega) hbase ?_
  · intro j u hu
    rw [Go.WideShapes.add_plain, Nat.zero_add]
    match j, hu with
    | 0, hu => simp [cellsA] at hu; subst hu; exact x0
    | 1, hu => simp [cellsA] at hu; subst hu; exact x1
    | 2, hu => simp [cellsA] at hu; subst hu; exact x2
    | j + 3, hu => simp [cellsA] at hu
  · intro v' w' ho' hg' hn'
    obtain ⟨g', c', rfl, _, _, _, _⟩ := own_shape ho' (fun e => by have := (hn'.1 e).1; cases this)
    rw [← cellsA_append] at ho'
    refine h g' c' w' ?_ (fun k hk hne => hg'.block k hk (fun e => hne (by cases e; rfl))) hg'.size ((Below.refl base w).grown hg' hbase (by intro k hk; exact (World.ownsRow.lt hown k hk).1))
    unfold OwnA
    rw [List.length_append]
    exact ho'
theorem row_ne {w : World} {base g c k : Nat} {l : List A} (h : OwnA w base (some ⟨g, 0, none⟩) c l) {cs : Array Value} (hk : w.heap[k]? = some (.cells cs 24)) : g ≠ k := by
  intro e
  subst e
  rcases h.2 with ⟨h', _⟩ | ⟨g', c', cur, h', _, hg, _⟩
  · cases h'
  · injection h' with e1 _ _
    injection e1 with e1
    injection e1 with e1
    subst e1
    rw [hg] at hk
    injection hk with hk
    injection hk with _ hk _
    cases hk
end Go.Proofs.Ytomlmphdnoempab
