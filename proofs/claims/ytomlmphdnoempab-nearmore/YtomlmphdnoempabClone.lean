/-
  Arcs as cells of a row of our own; contracts of slices.Clone (of arcs) and graph.copied.
-/
import Derived.Test.YtomlmphdnoempabWorks
import Derived.Laws.AppendOwnNone
import Derived.Deep.RegionWith
import Derived.Lib.SliceRun
namespace Go.Proofs.Ytomlmphdnoempab
open Go.RowKit
theorem info53 : (Try.prog.info? 40).map (fun i => (i.zero, i.size, i.bytes)) = some (some (.agg #[.int .i64 0, .int .i64 0, .int .u32 0]), 3, 24) := by kernel_rfl
/-- Arcs as cells. -/
def cellsA : List A → List Value
  | [] => []
  | x :: r => .int .i64 x.f :: .int .i64 x.t :: .int .u32 x.w :: cellsA r
theorem cellsA_len : ∀ l : List A, (cellsA l).length = l.length * 3
  | [] => rfl
  | x :: r => by simp only [cellsA, List.length_cons, cellsA_len r]; omega
theorem cellsA_append : ∀ l m : List A, cellsA (l ++ m) = cellsA l ++ cellsA m
  | [], _ => rfl
  | x :: r, m => by simp only [cellsA, List.cons_append, cellsA_append r m]
theorem cellsA_at : ∀ (l : List A) (j : Nat), j < l.length → (cellsA l)[j * 3]? = some (.int .i64 (l.getD j A.zero).f) ∧ (cellsA l)[j * 3 + 1]? = some (.int .i64 (l.getD j A.zero).t) ∧ (cellsA l)[j * 3 + 2]? = some (.int .u32 (l.getD j A.zero).w)
  | [], _, h => absurd h (by simp)
  | x :: r, 0, _ => ⟨rfl, rfl, rfl⟩
  | x :: r, j + 1, h => by
    have := cellsA_at r j (by simpa using h)
    rw [show (j + 1) * 3 = j * 3 + 3 by omega]
    exact this
theorem cellsA_one : ∀ (l : List A), ∀ u ∈ cellsA l, u.oneCell' = true
  | [], u, h => by cases h
  | x :: r, u, h => by
    simp only [cellsA, List.mem_cons] at h
    rcases h with rfl | rfl | rfl | h
    · rfl
    · rfl
    · rfl
    · exact cellsA_one r u h
theorem cellsA_set : ∀ (l : List A) (j : Nat) (v : Int), j < l.length →
    (cellsA l).set (j * 3) (.int .i64 v) = cellsA (l.set j ⟨v, (l.getD j A.zero).t, (l.getD j A.zero).w⟩) ∧
    (cellsA l).set (j * 3 + 1) (.int .i64 v) = cellsA (l.set j ⟨(l.getD j A.zero).f, v, (l.getD j A.zero).w⟩) ∧
    (cellsA l).set (j * 3 + 2) (.int .u32 v) = cellsA (l.set j ⟨(l.getD j A.zero).f, (l.getD j A.zero).t, v⟩)
  | [], _, _, h => absurd h (by simp)
  | x :: r, 0, v, _ => ⟨rfl, rfl, rfl⟩
  | x :: r, j + 1, v, h => by
    have := cellsA_set r j v (by simpa using h)
    rw [show (j + 1) * 3 = j * 3 + 3 by omega]
    exact ⟨congrArg (fun t => Value.int .i64 x.f :: Value.int .i64 x.t :: Value.int .u32 x.w :: t) this.1, congrArg (fun t => Value.int .i64 x.f :: Value.int .i64 x.t :: Value.int .u32 x.w :: t) this.2.1, congrArg (fun t => Value.int .i64 x.f :: Value.int .i64 x.t :: Value.int .u32 x.w :: t) this.2.2⟩
theorem cells_of_at {w : World} {b o : Nat} : ∀ (l : List A) (p : Nat), (∀ j, j < l.length → (l.getD j A.zero).at w b (o + (p + j) * 3)) → ∀ i u, (cellsA l)[i]? = some u → w.cell? ⟨b, o + p * 3 + i, none⟩ = some u
  | [], _, _, i, u, h => by simp [cellsA] at h
  | x :: r, p, ha, i, u, h => by
    have h0 := ha 0 (by simp)
    simp only [Nat.add_zero] at h0
    match i, h with
    | 0, h => simp [cellsA] at h; subst h; exact h0.1
    | 1, h => simp [cellsA] at h; subst h; exact h0.2.1
    | 2, h => simp [cellsA] at h; subst h; exact h0.2.2
    | i + 3, h =>
      have := cells_of_at r (p + 1) (fun j hj => by have := ha (j + 1) (by simpa using hj); rw [show p + (j + 1) = p + 1 + j by omega] at this; exact this) i u (by simpa [cellsA] using h)
      rw [show o + p * 3 + (i + 3) = o + (p + 1) * 3 + i by omega]
      exact this
/-- A row of arcs of our own. -/
def OwnA (w : World) (B : Nat) (a : Option Addr) (c : Nat) (l : List A) : Prop := w.ownsRow B 40 3 (.slice a l.length c) l.length (cellsA l)
theorem OwnA.some {w : World} {B : Nat} {a : Option Addr} {c : Nat} {l : List A} (h : OwnA w B a c l) (h0 : 0 < l.length) : ∃ g, a = some ⟨g, 0, none⟩ ∧ B ≤ g ∧ g < w.heap.size := by
  rcases h.2 with ⟨_, h'⟩ | ⟨g, c', cur, h', hb, hg, _⟩
  · omega
  · injection h' with e1 e2 e3
    exact ⟨g, e1, hb, lt_of_block hg⟩
theorem OwnA.at {w : World} {B g c : Nat} {l : List A} (h : OwnA w B (.some ⟨g, 0, none⟩) c l) (j : Nat) (hj : j < l.length) : (l.getD j A.zero).at w g (j * 3) := by
  obtain ⟨h1, h2, h3⟩ := cellsA_at l j hj
  exact ⟨(World.ownsRow.cellAt h (j * 3) (by omega)).trans h1, (World.ownsRow.cellAt h (j * 3 + 1) (by omega)).trans h2, (World.ownsRow.cellAt h (j * 3 + 2) (by omega)).trans h3⟩
theorem OwnA.arcs {w : World} {B : Nat} {a : Option Addr} {c : Nat} {l : List A} (h : OwnA w B a c l) : Arcs w a l := by
  by_cases h0 : 0 < l.length
  · obtain ⟨g, rfl, _, hg⟩ := h.some h0
    exact Or.inr ⟨g, 0, rfl, hg, fun j hj => by rw [Nat.zero_add]; exact h.at j hj⟩
  · exact Or.inl (List.eq_nil_of_length_eq_zero (by omega))
theorem OwnA.alloc {w : World} {B : Nat} {a : Option Addr} {c : Nat} {l : List A} (h : OwnA w B a c l) (o : Obj) : OwnA (w.alloc o) B a c l := World.ownsRow.alloc h o
theorem OwnA.on {w w' : World} {B : Nat} {a : Option Addr} {c : Nat} {l : List A} (h : OwnA w B a c l) (hb : Below w.heap.size w w') : OwnA w' B a c l := by
  refine ⟨h.1, ?_⟩
  rcases h.2 with h' | ⟨g, c', cur, h1, h2, h3, h4⟩
  · exact Or.inl h'
  · exact Or.inr ⟨g, c', cur, h1, h2, (hb.block g (lt_of_block h3)).trans h3, h4⟩
theorem OwnA.base {w : World} {B B' : Nat} {a : Option Addr} {c : Nat} {l : List A} (h : OwnA w B a c l) (hb : B' ≤ B) : OwnA w B' a c l := own_base h hb
theorem OwnA.nil (w : World) (B : Nat) : OwnA w B none 0 [] := World.ownsRow_nil _ _ _ _
theorem clone_news {w : World} {ad : Addr} {l : List A} (h : Arcs w (some ad) l) (o : Obj) : ∀ j u, (cellsA l)[j]? = some u → (w.alloc o).cell? (ad.add j) = some u := by
  intro j u hu
  rcases h with rfl | ⟨b, q, he, hb, hc⟩
  · simp [cellsA] at hu
  · cases he
    have := cells_of_at (o := q) l 0 (fun j hj => by rw [Nat.zero_add]; exact hc j hj) j u hu
    rw [Go.WideShapes.add_plain, World.cell?_alloc_past _ _ _ hb]
    simpa using this
theorem eql_nil (w : World) (a : Option Addr) (n c : Nat) : (binOp .eql 22 (.slice a n c) (.slice none 0 0)).run Try.prog w = .ok (.bool a.isNone) w := Lib.run_eql_slice_nil w 22 40 a n c 0 0 Try.underlying22
set_option maxHeartbeats 400000 in
theorem clone_any (a : Option Addr) (l : List A) (cap : Nat) (w : World) (hlen : l.length * 24 ≤ 140737488351232) (hn : a = none → l = [] ∧ cap = 0) (hr : Arcs w a l) :
    Calls Try.prog 34 #[.slice a l.length cap] w fun e w' => ∃ a' c', e = .returned (.slice a' l.length c') ∧ OwnA w' w.heap.size a' c' l ∧ (a' = none → l = [] ∧ c' = 0) ∧ Below w.heap.size w w' := by
  obtain ⟨i0, hi, hz0, hz1, hz2⟩ := info_parts info53
  match a, hn, hr with
  | none, hn, _ =>
    obtain ⟨e1, e2⟩ := hn rfl
    subst e1 e2
    go_enter Try.func34, Try.ntmps34
    have he := fun w => eql_nil w none 0 0
    go_wp2_with fail
    go_ret
    exact ⟨none, 0, rfl, OwnA.nil _ _, (fun _ => by simp), Below.refl _ _⟩
  | some ad, _, hr =>
    have HN := Lib.hid (clone_news hr (.cells #[] 40))
    have HL := Lib.hid (cellsA_len l)
    have hown0 := World.ownsRow_lit (base := w.heap.size) (e := 40) (size := 3) w #[] 0 (Nat.le_refl _) (by decide) rfl
    have he := fun w => eql_nil w (some ad) l.length cap
    go_enter Try.func34, Try.ntmps34
    go_wp2_with (at_builtin; refine wpList_append_own _ rfl (.tmp 5) (.tmp 6) 22 rfl w.heap.size 40 i0 _ 3 24 Try.underlying22 hi hz0 hz1 hz2 rfl (by decide) (.slice (some ⟨w.heap.size, 0, none⟩) 0 0) 0 [] rfl hown0 ad l.length cap (cellsA l) rfl HL.out HN.out (cellsA_one l) (by unfold maxLen; omega) (by omega) (by simp) ?_; intro v1 w1 hown1 hgrow1 hnil1; obtain ⟨g1, c1, hv1, hg1, hc1, hs1, hm1⟩ := own_shape hown1 (fun e => by have := hnil1.1 e; simp at this); rw [hv1] at hown1 ⊢; clear hnil1 hv1; simp only [Nat.zero_add, List.nil_append] at hown1 hc1 ⊢)
    go_ret
    exact ⟨_, _, rfl, hown1, (fun h => by cases h), ((Below.refl w.heap.size w).alloc (Nat.le_refl _) _).grown hgrow1 (by simp) (by intro k hk; cases hk; exact Nat.le_refl _)⟩
set_option maxHeartbeats 1600000 in
theorem copied_any (N : Int) (a : Option Addr) (l : List A) (cap : Nat) (w : World) (hlen : l.length * 24 ≤ 140737488351232) (hn : a = none → l = [] ∧ cap = 0) (hr : Arcs w a l) :
    Calls Try.prog 24 #[.agg #[.int .i64 N, .slice a l.length cap]] w fun e w' => ∃ a' c', e = .returned (.agg #[.int .i64 N, .slice a' l.length c']) ∧ OwnA w' w.heap.size a' c' l ∧ (a' = none → l = [] ∧ c' = 0) ∧ Below w.heap.size w w' := by
  have hb0 : Below w.heap.size w ((w.alloc (.cells #[.int .i64 N, .slice a l.length cap] 24)).alloc (.cells #[.int .i64 0, .slice none 0 0] 24)) := ((Below.refl _ _).alloc (Nat.le_refl _) _).alloc (by simp) _
  have hg : ((w.alloc (.cells #[.int .i64 N, .slice a l.length cap] 24)).alloc (.cells #[.int .i64 0, .slice none 0 0] 24)).heap[w.heap.size]? = some (.cells #[.int .i64 N, .slice a l.length cap] 24) := (Below.heap_alloc _ _ _ (by simp)).trans (heap_top w _)
  have h1 := heap_top (w.alloc (.cells #[.int .i64 N, .slice a l.length cap] 24)) (.cells #[.int .i64 0, .slice none 0 0] 24)
  rw [show (w.alloc (.cells #[.int .i64 N, .slice a l.length cap] 24)).heap.size = w.heap.size + 1 by simp] at h1
  generalize hW : (w.alloc (.cells #[.int .i64 N, .slice a l.length cap] 24)).alloc (.cells #[.int .i64 0, .slice none 0 0] 24) = W at *
  obtain ⟨⟨g0, g1⟩, gf0, gf1⟩ := two_cells hg
  have HC := Lib.hid (clone_any a l cap W.drew hlen hn (hr.on hb0.drew))
  have HG := Lib.hid hg
  have H1 := Lib.hid h1
  clear hg h1
  go_enter Try.func24, Try.ntmps24
  go_wp2_with fail
  go_region_with (go_at_call 34; refine HC.out.mono ?_; rintro e w2 ⟨a2, c2, rfl, hown2, hn2, hb2⟩; obtain ⟨⟨k0, k1⟩, kf0, kf1⟩ := two_cells ((hb2.block _ (lt_of_block HG.out)).trans HG.out); have HR := Lib.hid ((hb2.block _ (lt_of_block H1.out)).trans H1.out); obtain ⟨⟨r0, r1⟩, rf0, rf1⟩ := two_cells HR.out)
  all_goals go_wp2_with fail
  all_goals
    have hlt := lt_of_block H1.out
    have hb3 : Below w.heap.size w w2 := hb0.drew.trans (hb2.mono (by show w.heap.size ≤ W.heap.size; omega))
    refine bodyPost_ret (v := .agg #[.int .i64 N, .slice a2 l.length c2]) (by simp [results, Try.results24, go_sem, r0, r1]) rfl ⟨a2, c2, rfl, ?_, hn2, (hb3.setCell (by show _ ≤ w.heap.size + 1; omega) _).setCell (by show _ ≤ w.heap.size + 1; omega) _⟩
    have h9 : OwnA ((w2.setCell ⟨w.heap.size + 1, 0, none⟩ (.int .i64 N)).setCell ⟨w.heap.size + 1, 1, none⟩ (.slice a2 l.length c2)) W.heap.size a2 c2 l := ownsRow_setCell_below (ownsRow_setCell_below hown2 hlt _) hlt _
    exact h9.base (by omega)
end Go.Proofs.Ytomlmphdnoempab
