/-
  The contract of the book's CopyNest. Arcs as cells; the contract of the book's SameGraph. Contract of the book's KeptGraph, at a graph that was kept: true. Contract of the book's LendGraph: a graph of its own, with a mark behind its arcs. Lists of numbers that are lent, and kept. A region that draws its order and whose last operation waits for all others: it may be walked with an idle operation in that one's place, which is carried out behind it.
-/
import Derived.Test.YtpmjbeiclmllmaaGreatSame
import Derived.Laws.StructEq
import Derived.Deep.RegionHeld3
import Derived.Test.YtpmjbeiclmllmaaGreatXCea
import Derived.Laws.AppendOwnNone
import Derived.Deep.DeepMust
namespace Go.Proofs.YtpmjbeiclmllmaaGreat
open Go.RowKit
/-- The arcs of a slice lie so in memory, below B. -/
def ArcsB (B : Nat) (w : World) (a : Option Addr) (l : List A) : Prop :=
  l = [] ∨ ∃ b o, a = some ⟨b, o, none⟩ ∧ b < B ∧ ∀ j, j < l.length → (l.getD j A.zero).at w b (o + j * 3)
theorem A.at.onB {x : A} {w w' : World} {b o B : Nat} (h : x.at w b o) (hl : b < B) (hb : Below B w w') : x.at w' b o :=
  ⟨(hb.cell hl).trans h.1, (hb.cell (p := ⟨b, o + 1, none⟩) hl).trans h.2.1, (hb.cell (p := ⟨b, o + 2, none⟩) hl).trans h.2.2⟩
theorem ArcsB.on {B : Nat} {w w' : World} {a : Option Addr} {l : List A} (h : ArcsB B w a l) (hb : Below B w w') : ArcsB B w' a l := by
  rcases h with h | ⟨b, o, rfl, hl, hc⟩
  · exact Or.inl h
  · exact Or.inr ⟨b, o, rfl, hl, fun j hj => (hc j hj).onB hl hb⟩
theorem ArcsB.up {B B' : Nat} {w : World} {a : Option Addr} {l : List A} (h : ArcsB B w a l) (hb : B ≤ B') : ArcsB B' w a l := by
  rcases h with h | ⟨b, o, rfl, hl, hc⟩
  · exact Or.inl h
  · exact Or.inr ⟨b, o, rfl, Nat.lt_of_lt_of_le hl hb, hc⟩
theorem Arcs.b {w : World} {a : Option Addr} {l : List A} (h : Arcs w a l) : ArcsB w.heap.size w a l := h
theorem ArcsB.a {B : Nat} {w : World} {a : Option Addr} {l : List A} (h : ArcsB B w a l) (hb : B ≤ w.heap.size) : Arcs w a l := h.up hb
theorem ArcsB.get {B : Nat} {w : World} {a : Option Addr} {l : List A} (h : ArcsB B w a l) : ∃ b o, 0 < l.length → a = some ⟨b, o, none⟩ ∧ b < B ∧ ∀ j, j < l.length → (l.getD j A.zero).at w b (o + j * 3) := by
  rcases h with rfl | ⟨b, o, h⟩
  · exact ⟨0, 0, fun h => absurd h (by simp)⟩
  · exact ⟨b, o, fun _ => h⟩
theorem info53 : (Tryz.prog.info? 68).map (fun i => (i.zero, i.size, i.bytes)) = some (some (.agg #[.int .i64 0, .int .i64 0, .int .u32 0]), 3, 24) := by kernel_rfl
/-- Arcs as cells. -/
def cellsA : List A → List Value
  | [] => []
  | x :: r => .int .i64 x.f :: .int .i64 x.t :: .int .u32 x.w :: cellsA r
theorem cellsA_len : ∀ l : List A, (cellsA l).length = l.length * 3
  | [] => rfl
  | x :: r => by simp only [cellsA, List.length_cons, cellsA_len r]; omega
theorem cellsA_append : ∀ l m : List A, cellsA (l ++ m) = cellsA l ++ cellsA m
  | [], _ => rfl
  | x :: r, m => by simp only [cellsA, List.cons_append, cellsA_append r m]
theorem cellsA_at : ∀ (l : List A) (j : Nat), j < l.length → (cellsA l)[j * 3]? = some (.int .i64 (l.getD j A.zero).f) ∧ (cellsA l)[j * 3 + 1]? = some (.int .i64 (l.getD j A.zero).t) ∧ (cellsA l)[j * 3 + 2]? = some (.int .u32 (l.getD j A.zero).w)
  | [], _, h => absurd h (by simp)
  | x :: r, 0, _ => ⟨rfl, rfl, rfl⟩
  | x :: r, j + 1, h => by
    have := cellsA_at r j (by simpa using h)
    rw [show (j + 1) * 3 = j * 3 + 3 by omega]
    exact this
theorem cellsA_one : ∀ (l : List A), ∀ u ∈ cellsA l, u.oneCell' = true
  | [], u, h => by cases h
  | x :: r, u, h => by
    simp only [cellsA, List.mem_cons] at h
    rcases h with rfl | rfl | rfl | h
    · rfl
    · rfl
    · rfl
    · exact cellsA_one r u h
theorem cellsA_set : ∀ (l : List A) (j : Nat) (v : Int), j < l.length →
    (cellsA l).set (j * 3) (.int .i64 v) = cellsA (l.set j ⟨v, (l.getD j A.zero).t, (l.getD j A.zero).w⟩) ∧
    (cellsA l).set (j * 3 + 1) (.int .i64 v) = cellsA (l.set j ⟨(l.getD j A.zero).f, v, (l.getD j A.zero).w⟩) ∧
    (cellsA l).set (j * 3 + 2) (.int .u32 v) = cellsA (l.set j ⟨(l.getD j A.zero).f, (l.getD j A.zero).t, v⟩)
  | [], _, _, h => absurd h (by simp)
  | x :: r, 0, v, _ => ⟨rfl, rfl, rfl⟩
  | x :: r, j + 1, v, h => by
    have := cellsA_set r j v (by simpa using h)
    rw [show (j + 1) * 3 = j * 3 + 3 by omega]
    exact ⟨congrArg (fun t => Value.int .i64 x.f :: Value.int .i64 x.t :: Value.int .u32 x.w :: t) this.1, congrArg (fun t => Value.int .i64 x.f :: Value.int .i64 x.t :: Value.int .u32 x.w :: t) this.2.1, congrArg (fun t => Value.int .i64 x.f :: Value.int .i64 x.t :: Value.int .u32 x.w :: t) this.2.2⟩
theorem cells_of_at {w : World} {b o : Nat} : ∀ (l : List A) (p : Nat), (∀ j, j < l.length → (l.getD j A.zero).at w b (o + (p + j) * 3)) → ∀ i u, (cellsA l)[i]? = some u → w.cell? ⟨b, o + p * 3 + i, none⟩ = some u
  | [], _, _, i, u, h => by simp [cellsA] at h
  | x :: r, p, ha, i, u, h => by
    have h0 := ha 0 (by simp)
    simp only [Nat.add_zero] at h0
    match i, h with
    | 0, h => simp [cellsA] at h; subst h; exact h0.1
    | 1, h => simp [cellsA] at h; subst h; exact h0.2.1
    | 2, h => simp [cellsA] at h; subst h; exact h0.2.2
    | i + 3, h =>
      have := cells_of_at r (p + 1) (fun j hj => by have := ha (j + 1) (by simpa using hj); rw [show p + (j + 1) = p + 1 + j by omega] at this; exact this) i u (by simpa [cellsA] using h)
      rw [show o + p * 3 + (i + 3) = o + (p + 1) * 3 + i by omega]
      exact this
/-- A row of arcs of our own. -/
def OwnA (w : World) (B : Nat) (a : Option Addr) (c : Nat) (l : List A) : Prop := w.ownsRow B 68 3 (.slice a l.length c) l.length (cellsA l)
theorem OwnA.some {w : World} {B : Nat} {a : Option Addr} {c : Nat} {l : List A} (h : OwnA w B a c l) (h0 : 0 < l.length) : ∃ g, a = some ⟨g, 0, none⟩ ∧ B ≤ g ∧ g < w.heap.size := by
  rcases h.2 with ⟨_, h'⟩ | ⟨g, c', cur, h', hb, hg, _⟩
  · omega
  · injection h' with e1 e2 e3
    exact ⟨g, e1, hb, lt_of_block hg⟩
theorem OwnA.at {w : World} {B g c : Nat} {l : List A} (h : OwnA w B (.some ⟨g, 0, none⟩) c l) (j : Nat) (hj : j < l.length) : (l.getD j A.zero).at w g (j * 3) := by
  obtain ⟨h1, h2, h3⟩ := cellsA_at l j hj
  exact ⟨(World.ownsRow.cellAt h (j * 3) (by omega)).trans h1, (World.ownsRow.cellAt h (j * 3 + 1) (by omega)).trans h2, (World.ownsRow.cellAt h (j * 3 + 2) (by omega)).trans h3⟩
theorem OwnA.arcs {w : World} {B : Nat} {a : Option Addr} {c : Nat} {l : List A} (h : OwnA w B a c l) : Arcs w a l := by
  by_cases h0 : 0 < l.length
  · obtain ⟨g, rfl, _, hg⟩ := h.some h0
    exact Or.inr ⟨g, 0, rfl, hg, fun j hj => by rw [Nat.zero_add]; exact h.at j hj⟩
  · exact Or.inl (List.eq_nil_of_length_eq_zero (by omega))
theorem OwnA.alloc {w : World} {B : Nat} {a : Option Addr} {c : Nat} {l : List A} (h : OwnA w B a c l) (o : Obj) : OwnA (w.alloc o) B a c l := World.ownsRow.alloc h o
theorem OwnA.on {w w' : World} {B : Nat} {a : Option Addr} {c : Nat} {l : List A} (h : OwnA w B a c l) (hb : Below w.heap.size w w') : OwnA w' B a c l := by
  refine ⟨h.1, ?_⟩
  rcases h.2 with h' | ⟨g, c', cur, h1, h2, h3, h4⟩
  · exact Or.inl h'
  · exact Or.inr ⟨g, c', cur, h1, h2, (hb.block g (lt_of_block h3)).trans h3, h4⟩
theorem OwnA.base {w : World} {B B' : Nat} {a : Option Addr} {c : Nat} {l : List A} (h : OwnA w B a c l) (hb : B' ≤ B) : OwnA w B' a c l := own_base h hb
theorem OwnA.nil (w : World) (B : Nat) : OwnA w B none 0 [] := World.ownsRow_nil _ _ _ _
theorem clone_news {w : World} {ad : Addr} {l : List A} (h : Arcs w (some ad) l) (o : Obj) : ∀ j u, (cellsA l)[j]? = some u → (w.alloc o).cell? (ad.add j) = some u := by
  intro j u hu
  rcases h with rfl | ⟨b, q, he, hb, hc⟩
  · simp [cellsA] at hu
  · cases he
    have := cells_of_at (o := q) l 0 (fun j hj => by rw [Nat.zero_add]; exact hc j hj) j u hu
    rw [Go.WideShapes.add_plain, World.cell?_alloc_past _ _ _ hb]
    simpa using this
set_option maxHeartbeats 800000 in
theorem sameGraph_any (N : Int) (a a' : Option Addr) (cap cap' : Nat) (l : List A) (w : World) (hlen : l.length ≤ 9223372036854775807) (hr : Arcs w a l) (hr' : Arcs w a' l) :
    Calls Tryz.prog 40 #[.agg #[.int .i64 N, .slice a l.length cap], .agg #[.int .i64 N, .slice a' l.length cap']] w fun e w' => e = .returned (.bool true) ∧ Below w.heap.size w w' := by
  have hb0 : Below w.heap.size w ((w.alloc (.cells #[.int .i64 N, .slice a l.length cap] 24)).alloc (.cells #[.int .i64 N, .slice a' l.length cap'] 24)) := ((Below.refl _ _).alloc (Nat.le_refl _) _).alloc (by simp) _
  have hg : ((w.alloc (.cells #[.int .i64 N, .slice a l.length cap] 24)).alloc (.cells #[.int .i64 N, .slice a' l.length cap'] 24)).heap[w.heap.size]? = some (.cells #[.int .i64 N, .slice a l.length cap] 24) := (Below.heap_alloc _ _ _ (by simp)).trans (heap_top w _)
  have h1 := heap_top (w.alloc (.cells #[.int .i64 N, .slice a l.length cap] 24)) (.cells #[.int .i64 N, .slice a' l.length cap'] 24)
  rw [show (w.alloc (.cells #[.int .i64 N, .slice a l.length cap] 24)).heap.size = w.heap.size + 1 by simp] at h1
  generalize hW : (w.alloc (.cells #[.int .i64 N, .slice a l.length cap] 24)).alloc (.cells #[.int .i64 N, .slice a' l.length cap'] 24) = W at *
  obtain ⟨⟨g0, g1⟩, gf0, gf1⟩ := two_cells hg
  obtain ⟨⟨k0, k1⟩, kf0, kf1⟩ := two_cells h1
  have hrW := hr.on hb0
  have hrW' := hr'.on hb0
  obtain ⟨b, o, hab⟩ := hrW.b.get
  obtain ⟨b', o', hab'⟩ := hrW'.b.get
  go_enter Tryz.func40, Tryz.ntmps40
  go_wp2_with fail
  go_loopw [5] (fun i wr => ∃ k n : Nat, k ≤ l.length ∧ i = .int .i64 k ∧ wr = W.drewN n) (fun i _ => l.length - (intOf i).toNat)
  case atStart => exact ⟨0, 0, Nat.zero_le _, rfl, rfl⟩
  case round =>
    obtain ⟨k, n, hk, rfl, rfl⟩ := hrel
    by_cases hlt : k < l.length
    · obtain ⟨rfl, _, hc⟩ := hab (by omega)
      obtain ⟨rfl, _, hc'⟩ := hab' (by omega)
      obtain ⟨c0, c1, c2⟩ := hc k hlt
      obtain ⟨d0, d1, d2⟩ := hc' k hlt
      clear hc hc'
      generalize l.getD k A.zero = x at *
      go_wp2_with fail
      go_quiet (fail)
      go_wp2_with fail
      exact ⟨⟨k + 1, _, by omega, by go_num, rfl⟩, by simp [intOf]; omega⟩
    · go_wp2_with fail
      go_ret
      exact ⟨rfl, hb0.trans (below_drewN _ _ _)⟩
end Go.Proofs.YtpmjbeiclmllmaaGreat
namespace Go.Proofs.YtpmjbeiclmllmaaGreat
open Go.RowKit
/-- The mark behind. -/
def A.mark : A := ⟨-77, 0, 0⟩
/-- A graph that is lent. -/
def Lent (w w' : World) (e : Ending) (N : Int) (l : List A) : Prop :=
  ∃ g c, e = .returned (.agg #[.int .i64 N, .slice (some ⟨g, 0, none⟩) l.length c]) ∧ l.length < c ∧ c ≤ 9223372036854775807 ∧ w'.ownsRow w.heap.size 68 3 (.slice (some ⟨g, 0, none⟩) (l.length + 1) c) (l.length + 1) (cellsA (l ++ [A.mark])) ∧ Below w.heap.size w w'
theorem mark_news (w : World) : ∀ j u, (cellsA [A.mark])[j]? = some u → (w.alloc (.cells #[.int .i64 (-77), .int .i64 0, .int .u32 0] 68)).cell? ((⟨w.heap.size, 0, none⟩ : Addr).add j) = some u := by
  intro j u hu
  obtain ⟨h0, h1, h2⟩ := three_cells (heap_top w (.cells #[.int .i64 (-77), .int .i64 0, .int .u32 0] 68))
  rw [Go.WideShapes.add_plain, Nat.zero_add]
  match j, hu with
  | 0, hu => simp [cellsA, A.mark] at hu; subst hu; exact h0
  | 1, hu => simp [cellsA, A.mark] at hu; subst hu; exact h1
  | 2, hu => simp [cellsA, A.mark] at hu; subst hu; exact h2
  | j + 3, hu => simp [cellsA] at hu
set_option maxHeartbeats 1600000 in
theorem lend_some (N : Int) (ad : Addr) (l : List A) (cap : Nat) (w : World) (hlen : l.length * 24 ≤ 140737488351232) (hr : Arcs w (some ad) l) :
    Calls Tryz.prog 8 #[.agg #[.int .i64 N, .slice (some ad) l.length cap]] w fun e w' => Lent w w' e N l := by
  obtain ⟨i0, hi, hz0, hz1, hz2⟩ := info_parts info53
  have hb0 : Below w.heap.size w ((w.alloc (.cells #[.int .i64 N, .slice (some ad) l.length cap] 24)).alloc (.cells #[.int .i64 0, .slice none 0 0] 24)) := ((Below.refl _ _).alloc (Nat.le_refl _) _).alloc (by simp) _
  have hg : ((w.alloc (.cells #[.int .i64 N, .slice (some ad) l.length cap] 24)).alloc (.cells #[.int .i64 0, .slice none 0 0] 24)).heap[w.heap.size]? = some (.cells #[.int .i64 N, .slice (some ad) l.length cap] 24) := (Below.heap_alloc _ _ _ (by simp)).trans (heap_top w _)
  have h1 := heap_top (w.alloc (.cells #[.int .i64 N, .slice (some ad) l.length cap] 24)) (.cells #[.int .i64 0, .slice none 0 0] 24)
  rw [show (w.alloc (.cells #[.int .i64 N, .slice (some ad) l.length cap] 24)).heap.size = w.heap.size + 1 by simp] at h1
  generalize hW : (w.alloc (.cells #[.int .i64 N, .slice (some ad) l.length cap] 24)).alloc (.cells #[.int .i64 0, .slice none 0 0] 24) = W at *
  obtain ⟨⟨g0, g1⟩, gf0, gf1⟩ := two_cells hg
  have HN := Lib.hid (clone_news (hr.on hb0) (.cells #[] 68))
  have HL := Lib.hid (cellsA_len l)
  have HA : Hid (cellsA l ++ cellsA [A.mark] = cellsA (l ++ [A.mark])) := (cellsA_append l [A.mark]).symm
  have hown0 := World.ownsRow_lit (base := W.heap.size) (e := 68) (size := 3) W #[] 0 (Nat.le_refl _) (by decide) rfl
  have s0 := lt_of_block hg
  have s1 := lt_of_block h1
  go_enter Tryz.func8, Tryz.ntmps8
  go_wp2_with (first
    | (at_builtin; refine wpList_append_own _ rfl (.tmp 4) (.tmp 6) 22 rfl W.heap.size 68 i0 _ 3 24 Tryz.underlying22 hi hz0 hz1 hz2 rfl (by decide) (.slice (some ⟨W.heap.size, 0, none⟩) 0 0) 0 [] rfl hown0 ad l.length cap (cellsA l) rfl HL.out HN.out (cellsA_one l) (by unfold maxLen; omega) (by omega) (by simp) ?_; intro v1 w1 hown1 hgrow1 hnil1; obtain ⟨g1', c1, hv1, hg1, hc1, hs1, hm1⟩ := own_shape hown1 (fun e => by have := hnil1.1 e; simp at this); rw [hv1] at hown1 ⊢; clear hnil1 hv1; simp only [Nat.zero_add, List.nil_append] at hown1 hc1 ⊢)
    | (at_builtin; refine wpList_append_own _ rfl (.tmp 8) (.tmp 10) 22 rfl W.heap.size 68 i0 _ 3 24 Tryz.underlying22 hi hz0 hz1 hz2 rfl (by decide) (.slice (some ⟨g1', 0, none⟩) l.length c1) l.length (cellsA l) rfl (hown1.alloc _) ⟨w1.heap.size, 0, none⟩ 1 1 (cellsA [A.mark]) rfl rfl (mark_news w1) (cellsA_one _) (by unfold maxLen; omega) (by omega) (by simp; omega) ?_; intro v2 w2 hown2 hgrow2 hnil2; obtain ⟨g2, c2, hv2, hg2, hc2, hs2, hm2⟩ := own_shape hown2 (fun e => by have := hnil2.1 e; simp at this); rw [hv2] at hown2 ⊢; clear hnil2 hv2))
  have b1 : Below W.heap.size W w1 := ((Below.refl W.heap.size W).alloc (Nat.le_refl _) _).grown hgrow1 (by simp) (by intro k hk; cases hk; exact Nat.le_refl _)
  have b2 : Below W.heap.size W w2 := (b1.alloc b1.size _).grown hgrow2 (by have := b1.size; simp; omega) (by intro k hk; cases hk; exact hg1)
  have hg2' := (b2.block _ s0).trans hg
  have hh2' := (b2.block _ s1).trans h1
  have bw := bthen hb0 b2 hb0.size
  rw [HA.out] at hown2
  clear hown1 hgrow1 hgrow2 g0 g1 gf0 gf1 hown0 HN hW b1 b2
  obtain ⟨⟨g0, g1⟩, gf0, gf1⟩ := two_cells hg2'
  obtain ⟨⟨r0, r1⟩, rf0, rf1⟩ := two_cells hh2'
  have k1 : (l.length : Int) ≤ (c2 : Int) := by omega
  have k2 : (0 : Int) ≤ (l.length : Int) := by omega
  have HO := Lib.hid hown2
  clear hown2
  go_region
  go_wp2_with fail
  refine bodyPost_ret (v := .agg #[.int .i64 N, .slice (some ⟨g2, 0, none⟩) l.length c2]) (by simp [results, Tryz.results8, go_sem, r0, r1]) rfl ⟨g2, c2, rfl, by omega, hm2, ?_, ((bw.setCell (by show _ ≤ w.heap.size + 1; omega) _).setCell (by show _ ≤ w.heap.size + 1; omega) _).drew⟩
  exact own_base (ownsRow_setCell_below (ownsRow_setCell_below HO.out (show w.heap.size + 1 < W.heap.size by omega) _) (show w.heap.size + 1 < W.heap.size by omega) _) (by omega)
set_option maxHeartbeats 1600000 in
theorem lend_none (N : Int) (w : World) :
    Calls Tryz.prog 8 #[.agg #[.int .i64 N, .slice none 0 0]] w fun e w' => Lent w w' e N [] := by
  obtain ⟨i0, hi, hz0, hz1, hz2⟩ := info_parts info53
  have hb0 : Below w.heap.size w ((w.alloc (.cells #[.int .i64 N, .slice none 0 0] 24)).alloc (.cells #[.int .i64 0, .slice none 0 0] 24)) := ((Below.refl _ _).alloc (Nat.le_refl _) _).alloc (by simp) _
  have hg : ((w.alloc (.cells #[.int .i64 N, .slice none 0 0] 24)).alloc (.cells #[.int .i64 0, .slice none 0 0] 24)).heap[w.heap.size]? = some (.cells #[.int .i64 N, .slice none 0 0] 24) := (Below.heap_alloc _ _ _ (by simp)).trans (heap_top w _)
  have h1 := heap_top (w.alloc (.cells #[.int .i64 N, .slice none 0 0] 24)) (.cells #[.int .i64 0, .slice none 0 0] 24)
  rw [show (w.alloc (.cells #[.int .i64 N, .slice none 0 0] 24)).heap.size = w.heap.size + 1 by simp] at h1
  generalize hW : (w.alloc (.cells #[.int .i64 N, .slice none 0 0] 24)).alloc (.cells #[.int .i64 0, .slice none 0 0] 24) = W at *
  obtain ⟨⟨g0, g1⟩, gf0, gf1⟩ := two_cells hg
  have hown0 := World.ownsRow_lit (base := W.heap.size) (e := 68) (size := 3) W #[] 0 (Nat.le_refl _) (by decide) rfl
  have s0 := lt_of_block hg
  have s1 := lt_of_block h1
  have HM : Hid ([] ++ cellsA [A.mark] = cellsA ([] ++ [A.mark])) := rfl
  have hmk := mark_news (W.alloc (.cells #[] 68))
  rw [show (W.alloc (.cells #[] 68)).heap.size = W.heap.size + 1 by simp] at hmk
  have HMK := Lib.hid hmk
  clear hmk
  go_enter Tryz.func8, Tryz.ntmps8
  go_wp2_with (first
    | (at_builtin; refine wpList_append_own_none rfl (.tmp 4) (.tmp 6) 22 rfl W.heap.size 68 i0 3 Tryz.underlying22 hi (.slice (some ⟨W.heap.size, 0, none⟩) 0 0) 0 [] rfl hown0 rfl ?_)
    | (at_builtin; refine wpList_append_own _ rfl (.tmp 8) (.tmp 10) 22 rfl W.heap.size 68 i0 _ 3 24 Tryz.underlying22 hi hz0 hz1 hz2 rfl (by decide) (.slice (some ⟨W.heap.size, 0, none⟩) 0 0) 0 [] rfl (hown0.alloc _) ⟨W.heap.size + 1, 0, none⟩ 1 1 (cellsA [A.mark]) rfl rfl HMK.out (cellsA_one _) (by decide) (by decide) (by simp; omega) ?_; intro v2 w2 hown2 hgrow2 hnil2; obtain ⟨g2, c2, hv2, hg2, hc2, hs2, hm2⟩ := own_shape hown2 (fun e => by have := hnil2.1 e; simp at this); rw [hv2] at hown2 ⊢; clear hnil2 hv2; simp only [Nat.zero_add] at hown2 hc2 ⊢))
  have b2 : Below W.heap.size W w2 := (((Below.refl W.heap.size W).alloc (Nat.le_refl _) _).alloc (by simp) _).grown hgrow2 (by simp; omega) (by intro k hk; cases hk; exact Nat.le_refl _)
  have hg2' := (b2.block _ s0).trans hg
  have hh2' := (b2.block _ s1).trans h1
  have bw := bthen hb0 b2 hb0.size
  clear hgrow2 g0 g1 gf0 gf1 hown0 hW b2 HMK
  obtain ⟨⟨g0, g1⟩, gf0, gf1⟩ := two_cells hg2'
  obtain ⟨⟨r0, r1⟩, rf0, rf1⟩ := two_cells hh2'
  have k1 : (0 : Int) ≤ (c2 : Int) := by omega
  have HO := Lib.hid hown2
  clear hown2
  go_region
  go_wp2_with fail
  refine bodyPost_ret (v := .agg #[.int .i64 N, .slice (some ⟨g2, 0, none⟩) 0 c2]) (by simp [results, Tryz.results8, go_sem, r0, r1]) rfl ⟨g2, c2, rfl, by show 0 < c2; omega, hm2, ?_, ((bw.setCell (by show _ ≤ w.heap.size + 1; omega) _).setCell (by show _ ≤ w.heap.size + 1; omega) _).drew⟩
  exact own_base (ownsRow_setCell_below (ownsRow_setCell_below HO.out (show w.heap.size + 1 < W.heap.size by omega) _) (show w.heap.size + 1 < W.heap.size by omega) _) (by omega)
theorem lend_any (N : Int) (a : Option Addr) (l : List A) (cap : Nat) (w : World) (hlen : l.length * 24 ≤ 140737488351232) (hn : a = none → l = [] ∧ cap = 0) (hr : Arcs w a l) :
    Calls Tryz.prog 8 #[.agg #[.int .i64 N, .slice a l.length cap]] w fun e w' => Lent w w' e N l := by
  match a, hn, hr with
  | none, hn, _ =>
    obtain ⟨e1, e2⟩ := hn rfl
    subst e1 e2
    exact lend_none N w
  | some ad, _, hr => exact lend_some N ad l cap w hlen hr
end Go.Proofs.YtpmjbeiclmllmaaGreat
namespace Go.Proofs.YtpmjbeiclmllmaaGreat
open Go.RowKit
theorem getD_append_mark (l : List A) : (l ++ [A.mark]).getD l.length A.zero = A.mark := by simp [List.getD]
theorem getD_append_lt (l : List A) (j : Nat) (h : j < l.length) : (l ++ [A.mark]).getD j A.zero = l.getD j A.zero := by simp [List.getD, List.getElem?_append_left h]
/-- A graph that is lent still lies as it was, with its mark. -/
def Still (w : World) (g : Nat) (l : List A) : Prop := ∀ j, j < l.length + 1 → ((l ++ [A.mark]).getD j A.zero).at w g (j * 3)
theorem still_own {w : World} {B g c : Nat} {l : List A} (h : w.ownsRow B 68 3 (.slice (some ⟨g, 0, none⟩) (l.length + 1) c) (l.length + 1) (cellsA (l ++ [A.mark]))) : Still w g l := by
  intro j hj
  obtain ⟨h1, h2, h3⟩ := cellsA_at (l ++ [A.mark]) j (by simpa using hj)
  exact ⟨(World.ownsRow.cellAt h (j * 3) (by omega)).trans h1, (World.ownsRow.cellAt h (j * 3 + 1) (by omega)).trans h2, (World.ownsRow.cellAt h (j * 3 + 2) (by omega)).trans h3⟩
theorem Still.lt {w : World} {g : Nat} {l : List A} (h : Still w g l) : g < w.heap.size := World.block_lt_of_cell? w _ (h 0 (by omega)).1
theorem Still.on {w w' : World} {g : Nat} {l : List A} (h : Still w g l) (hb : Below w.heap.size w w') : Still w' g l := fun j hj => (h j hj).on hb
theorem Still.arcs {w : World} {g : Nat} {l : List A} (h : Still w g l) : Arcs w (some ⟨g, 0, none⟩) l :=
  Or.inr ⟨g, 0, rfl, h.lt, fun j hj => by rw [Nat.zero_add, ← getD_append_lt l j hj]; exact h j (by omega)⟩
set_option maxHeartbeats 1600000 in
theorem kept_any (N : Int) (g c : Nat) (a : Option Addr) (l : List A) (cap : Nat) (w : World) (hlen : l.length * 24 ≤ 140737488351232) (hc : l.length < c) (hcm : c ≤ 9223372036854775807) (hs : Still w g l) (hr : Arcs w a l) :
    Calls Tryz.prog 16 #[.agg #[.int .i64 N, .slice (some ⟨g, 0, none⟩) l.length c], .agg #[.int .i64 N, .slice a l.length cap]] w fun e w' => e = .returned (.bool true) ∧ Below w.heap.size w w' := by
  have hl : l.length ≤ 9223372036854775807 := by omega
  have hb0 : Below w.heap.size w ((w.alloc (.cells #[.int .i64 N, .slice (some ⟨g, 0, none⟩) l.length c] 24)).alloc (.cells #[.int .i64 N, .slice a l.length cap] 24)) := ((Below.refl _ _).alloc (Nat.le_refl _) _).alloc (by simp) _
  have hg : ((w.alloc (.cells #[.int .i64 N, .slice (some ⟨g, 0, none⟩) l.length c] 24)).alloc (.cells #[.int .i64 N, .slice a l.length cap] 24)).heap[w.heap.size]? = some (.cells #[.int .i64 N, .slice (some ⟨g, 0, none⟩) l.length c] 24) := (Below.heap_alloc _ _ _ (by simp)).trans (heap_top w _)
  have h1 := heap_top (w.alloc (.cells #[.int .i64 N, .slice (some ⟨g, 0, none⟩) l.length c] 24)) (.cells #[.int .i64 N, .slice a l.length cap] 24)
  rw [show (w.alloc (.cells #[.int .i64 N, .slice (some ⟨g, 0, none⟩) l.length c] 24)).heap.size = w.heap.size + 1 by simp] at h1
  generalize hW : (w.alloc (.cells #[.int .i64 N, .slice (some ⟨g, 0, none⟩) l.length c] 24)).alloc (.cells #[.int .i64 N, .slice a l.length cap] 24) = W at *
  have hsW := hs.on hb0
  have hrW := hr.on hb0
  obtain ⟨⟨g0, g1⟩, _, _⟩ := two_cells hg
  obtain ⟨⟨k0, k1⟩, _, _⟩ := two_cells h1
  have m0 := (hsW l.length (by omega)).1
  rw [getD_append_mark] at m0
  have m0' : W.cell? ⟨g, l.length * 3, none⟩ = some (.int .i64 (-77)) := m0
  have hgl := hsW.lt
  have i1 : (l.length : Int) + 1 ≤ (c : Int) := by omega
  have i2 : l.length + 1 ≤ c := by omega
  have i3 : (0 : Int) ≤ (l.length : Int) + 1 := by omega
  have i4 : IntKind.i64.wrap ((l.length : Int) + 1) = (l.length : Int) + 1 := by rw [IntKind.wrap_i64]; omega
  have i5 : (l.length : Int) < (l.length : Int) + 1 := by omega
  have i6 : ((l.length : Int) + 1).toNat = l.length + 1 := by omega
  have HS := Lib.hid (sameGraph_any N (some ⟨g, 0, none⟩) a c cap l W.drew hl (show Arcs W.drew _ l from hsW.arcs.on (below_drewN _ W 1)) (show Arcs W.drew a l from hrW.on (below_drewN _ W 1)))
  have HG := Lib.hid hg
  have HH := Lib.hid h1
  have HM := Lib.hid m0'
  clear hg h1 hs hr hsW hrW m0
  go_enter Tryz.func16, Tryz.ntmps16
  go_wp2_with fail
  go_region_held3 (fun w' => w'.cell? ⟨w.heap.size, 0, none⟩ = some (.int .i64 N) ∧ w'.cell? ⟨w.heap.size, 1, none⟩ = some (.slice (some ⟨g, 0, none⟩) l.length c) ∧ w'.cell? ⟨w.heap.size + 1, 0, none⟩ = some (.int .i64 N) ∧ w'.cell? ⟨w.heap.size + 1, 1, none⟩ = some (.slice a l.length cap) ∧ w'.cell? ⟨g, l.length * 3, none⟩ = some (.int .i64 (-77))) (go_keep) ((go_at_call 40; refine HS.out.mono ?_; rintro e w5 ⟨rfl, hb5⟩; obtain ⟨⟨p0, p1⟩, _, _⟩ := two_cells ((hb5.block _ (lt_of_block HG.out)).trans HG.out); obtain ⟨⟨q0, q1⟩, _, _⟩ := two_cells ((hb5.block _ (lt_of_block HH.out)).trans HH.out); have q2 := (hb5.cell (p := ⟨g, l.length * 3, none⟩) hgl).trans HM.out))
  go_wp2_with fail
  go_ret
  exact ⟨rfl, hb0.trans ((below_drewN _ W 1).trans (hb5.mono (by have := hb0.size; show w.heap.size ≤ W.heap.size; omega)))⟩
theorem own_wide {w : World} {B : Nat} {e : TypeId} {size g n c : Nat} {xs : List Value} (h : w.ownsRow B e size (.slice (some ⟨g, 0, none⟩) n c) n xs) : ∃ ys, w.ownsRow B e size (.slice (some ⟨g, 0, none⟩) c c) c ys := by
  rcases h.2 with ⟨h', _⟩ | ⟨g', c', cur, h', hb, hg, hnc, hm, hcs, _⟩
  · cases h'
  · injection h' with e1 e2 e3
    injection e1 with e1
    injection e1 with e1
    subst e1 e3
    refine ⟨cur.toList.take (c * size), ?_, Or.inr ⟨g, c, cur, rfl, hb, hg, Nat.le_refl _, hm, hcs, rfl⟩⟩
    rw [List.length_take, Array.length_toList, hcs]; omega
end Go.Proofs.YtpmjbeiclmllmaaGreat
namespace Go.Proofs.YtpmjbeiclmllmaaGreat
open Go.RowKit
/-- Numbers that are lent. -/
def LentI (w w' : World) (e : Ending) (xs : List Int) : Prop :=
  ∃ g c, e = .returned (.slice (some ⟨g, 0, none⟩) xs.length c) ∧ xs.length < c ∧ c ≤ 9223372036854775807 ∧ w'.ownsRow w.heap.size 3 1 (.slice (some ⟨g, 0, none⟩) (xs.length + 1) c) (xs.length + 1) (cellsI (xs ++ [-77])) ∧ Below w.heap.size w w'
theorem one_i (xs : List Int) : ∀ u ∈ cellsI xs, u.oneCell' = true := by
  intro u hu
  unfold cellsI at hu
  obtain ⟨x, _, rfl⟩ := List.mem_map.1 hu
  rfl
theorem ints_news {w : World} {ad : Addr} {xs : List Int} (h : Ints w (some ad) xs) (o : Obj) : ∀ j u, (cellsI xs)[j]? = some u → (w.alloc o).cell? (ad.add j) = some u := by
  intro j u hu
  rcases h with rfl | ⟨b, o', hab, hl, hc⟩
  · simp [cellsI] at hu
  · cases hab
    have hj : j < xs.length := by
      rcases Nat.lt_or_ge j xs.length with h' | h'
      · exact h'
      · rw [List.getElem?_eq_none (by rw [cellsI_len]; exact h')] at hu; cases hu
    rw [cellsI_getD xs j hj] at hu
    rw [Go.WideShapes.add_plain]
    exact ((((Below.refl w.heap.size w).alloc (Nat.le_refl _) o).cell (p := ⟨b, o' + j, none⟩) hl).trans (hc j hj)).trans hu
theorem mark_i (w : World) : ∀ j u, (cellsI [-77])[j]? = some u → (w.alloc (.cells #[.int .i64 (-77)] 3)).cell? ((⟨w.heap.size, 0, none⟩ : Addr).add j) = some u := one_new w (-77)
theorem cellsI_append (a b : List Int) : cellsI (a ++ b) = cellsI a ++ cellsI b := by simp [cellsI]
/-- They stand still. -/
def StillI (w : World) (g : Nat) (xs : List Int) : Prop := g < w.heap.size ∧ ∀ j, j < xs.length + 1 → w.cell? ⟨g, j, none⟩ = some (.int .i64 ((xs ++ [-77]).getD j 0))
theorem stillI_own {w : World} {B g c : Nat} {xs : List Int} (h : w.ownsRow B 3 1 (.slice (some ⟨g, 0, none⟩) (xs.length + 1) c) (xs.length + 1) (cellsI (xs ++ [-77]))) : StillI w g xs := by
  refine ⟨(h.lt g rfl).2, fun j hj => ?_⟩
  rw [World.ownsRow.cellAt h j (by omega), cellsI_getD _ j (by simp; omega)]
theorem StillI.on {w w' : World} {g : Nat} {xs : List Int} (h : StillI w g xs) (hb : Below w.heap.size w w') : StillI w' g xs := ⟨Nat.lt_of_lt_of_le h.1 hb.size, fun j hj => (hb.cell (p := ⟨g, j, none⟩) h.1).trans (h.2 j hj)⟩
theorem StillI.ints {w : World} {g : Nat} {xs : List Int} (h : StillI w g xs) : Ints w (some ⟨g, 0, none⟩) xs := by
  refine Or.inr ⟨g, 0, rfl, h.1, fun j hj => ?_⟩
  rw [Nat.zero_add, h.2 j (by omega)]
  simp [List.getD, List.getElem?_append_left hj]
theorem StillI.mark {w : World} {g : Nat} {xs : List Int} (h : StillI w g xs) : w.cell? ⟨g, xs.length, none⟩ = some (.int .i64 (-77)) := by
  rw [h.2 _ (by omega)]
  simp [List.getD]
end Go.Proofs.YtpmjbeiclmllmaaGreat
namespace Go.Proofs.YtpmjbeiclmllmaaGreat
open Go
/-- What is asked behind the region without its last operation. -/
def lastQ (P : Program) (o : Oper) (Q : Exit → Act → World → Prop) : Exit → Act → World → Prop
  | .normal, a, w => o.wp P a w (fun a' w' => Q .normal a' w') Q
  | e, a, w => Q e a w
/-- The idle operation. -/
def idle (o : Oper) : Oper := { o with op := .move (.const (.bool true)) }
section
variable {P : Program} {Q Q' : Exit → Act → World → Prop} {md : Region.Mode}
theorem wp_turn {o : Oper} {a : Act} {w : World} {K K' : Act → World → Prop} (hK : ∀ a w, K a w → K' a w) (hQ : ∀ e a w, e ≠ .normal → Q e a w → Q' e a w) (h : o.wp P a w K Q) : o.wp P a w K' Q' := by
  have hL : LetsOut Q → LetsOut Q' := fun ⟨a, w, h⟩ => ⟨a, w, hQ _ _ _ (by simp) h⟩
  unfold Oper.wp at *
  generalize (execOp a.eval o).run P w = r at *
  cases r with
  | ok n w' =>
    cases n <;> simp only [Oper.upon] at h ⊢ <;>
      first
        | exact hK _ _ h
        | exact Calls.mono h (fun e w'' he => by cases e <;> first | exact hK _ _ he | exact hL he | exact hQ _ _ _ (by simp) he)
        | exact Rows.mono h (fun _ _ he => hK _ _ he)
        | exact h
  | halt x w' => cases x <;> simp only [Oper.upon] at h ⊢ <;> first | exact hQ _ _ _ (by simp) h | exact h
theorem idle_run (o : Oper) (a : Act) (w : World) : (execOp a.eval (idle o)).run P w = .ok (.value (.bool true)) w := by
  simp [execOp, idle, Act.eval]
theorem idle_asks (o : Oper) (a : Act) (w : World) : ¬ (idle o).asks P a w := by
  intro h
  have h1 := h.1
  simp [execOp, idle, Act.eval] at h1
  cases (Array.not_mem_empty _ h1 : False)
/-- Every operation waits for earlier ones alone; the last one for all. -/
def lastOK (md : Region.Mode) (ops : Array Oper) (m : Nat) : Bool :=
  ops.size == m + 1 && (List.range ops.size).all (fun j => (ops[j]?).all (fun o => o.after.all (fun e => !Region.binds md e || decide (e.on < j)))) && ((ops[m]?).all (fun o => o.guard.isNone && o.dst.isNone && (List.range m).all (fun j => o.after.any (fun e => Region.binds md e && (e.on == j || (ops[e.on]?).any (fun o' => o'.after.any (fun e' => Region.binds md e' && e'.on == j)))))))
theorem ready_some {ops : Array Oper} {m : Nat} (hok : lastOK md ops m = true) {listed : Array Bool} : ∀ j, j < ops.size → listed.getD j true = false → (∀ i, i < j → listed.getD i false = true) → j ∈ Region.ready md ops listed := by
  intro j hj hl hb
  simp only [lastOK, Bool.and_eq_true, List.all_eq_true, List.mem_range] at hok
  refine mem_ready.2 ⟨hl, ops[j], by simp [hj], fun e he hbi => hb _ ?_⟩
  have := hok.1.2 j hj
  rw [Array.getElem?_eq_getElem hj] at this
  simp only [Option.all_some, Array.all_eq_true] at this
  obtain ⟨i, hi, rfl⟩ := Array.mem_iff_getElem.1 he
  have h := this i hi
  rw [hbi] at h
  simpa using h
theorem getD_set_same {l : Array Bool} {i : Nat} {b : Bool} (h : i < l.size) : (l.setIfInBounds i true).getD i b = true := by simp [h]
theorem getD_set_other {l : Array Bool} {i j : Nat} {b : Bool} (h : i ≠ j) : (l.setIfInBounds i true).getD j b = l.getD j b := by
  simp [h]
/-- Something may come up as long as something has not. -/
theorem ready_ne {ops : Array Oper} {m : Nat} (hok : lastOK md ops m = true) {listed : Array Bool} (hs : listed.size = ops.size) (j : Nat) (hj : j < ops.size) (hl : listed.getD j true = false) : Region.ready md ops listed ≠ [] := by
  induction j using Nat.strongRecOn with
  | ind j ih =>
    by_cases h : ∀ i, i < j → listed.getD i false = true
    · intro e
      have := ready_some hok j hj hl h
      rw [e] at this
      cases this
    · simp only [Classical.not_forall] at h
      obtain ⟨i, hi, hn⟩ := h
      refine ih i hi (by omega) ?_
      have hi' : i < listed.size := by omega
      simp [hi'] at hn ⊢
      exact hn
/-- What has come has all that it waits for. -/
def shutL (md : Region.Mode) (ops : Array Oper) (listed : Array Bool) : Prop := ∀ j oj, ops[j]? = some oj → listed.getD j false = true → ∀ e, e ∈ oj.after → Region.binds md e = true → listed.getD e.on false = true
theorem shutL_set {ops : Array Oper} {listed : Array Bool} {i : Nat} (h : shutL md ops listed) (hi : i ∈ Region.ready md ops listed) : shutL md ops (listed.setIfInBounds i true) := by
  obtain ⟨h1, o, h2, h3⟩ := mem_ready.1 hi
  have up : ∀ j, listed.getD j false = true → (listed.setIfInBounds i true).getD j false = true := fun j hj => by
    by_cases e : i = j
    · subst e
      have hs : i < listed.size := by
        by_cases c : i < listed.size
        · exact c
        · simp [c] at hj
      exact getD_set_same hs
    · rw [getD_set_other e]; exact hj
  intro j oj hj hl e he hb
  by_cases c : i = j
  · subst c
    rw [h2] at hj
    injection hj with hj
    subst hj
    exact up _ (h3 e he hb)
  · rw [getD_set_other c] at hl
    exact up _ (h j oj hj hl e he hb)
theorem ready_last {ops : Array Oper} {m : Nat} (hok : lastOK md ops m = true) {listed : Array Bool} (hsh : shutL md ops listed) (h : m ∈ Region.ready md ops listed) : ∀ j, j < m → listed.getD j false = true := by
  intro j hj
  obtain ⟨_, o, ho, ha⟩ := mem_ready.1 h
  simp only [lastOK, Bool.and_eq_true, List.all_eq_true, List.mem_range] at hok
  have := hok.2
  rw [ho] at this
  simp only [Option.all_some, Bool.and_eq_true, List.all_eq_true, List.mem_range] at this
  have h2 := this.2 j hj
  rw [Array.any_eq_true] at h2
  obtain ⟨i, hi, h3⟩ := h2
  simp only [Bool.and_eq_true, Bool.or_eq_true, beq_iff_eq] at h3
  have h4 := ha _ (Array.getElem_mem hi) h3.1
  rcases h3.2 with h5 | h5
  · rw [h5] at h4
    exact h4
  · cases ho' : ops[(o.after[i]).on]? with
    | none => rw [ho'] at h5; simp at h5
    | some o' =>
      rw [ho'] at h5
      simp only [Option.any_some] at h5
      rw [Array.any_eq_true] at h5
      obtain ⟨i', hi', h6⟩ := h5
      simp only [Bool.and_eq_true, beq_iff_eq] at h6
      have h7 := hsh _ o' ho' h4 _ (Array.getElem_mem hi') h6.1
      rw [h6.2] at h7
      exact h7
/-- The region with the idle operation in the last one's place. -/
def idled (ops : Array Oper) (m : Nat) : Array Oper := ops.modify m idle
theorem idled_get (ops : Array Oper) (m j : Nat) : (idled ops m)[j]? = if j = m then (ops[j]?).map idle else ops[j]? := by
  unfold idled
  rw [Array.getElem?_modify]
  by_cases h : m = j
  · subst h; simp
  · rw [if_neg h, if_neg (fun e => h e.symm)]
theorem idled_ready (ops : Array Oper) (m : Nat) (listed : Array Bool) : Region.ready md (idled ops m) listed = Region.ready md ops listed := by
  unfold Region.ready
  rw [show (idled ops m).size = ops.size by simp [idled]]
  congr 1
  funext i
  rw [idled_get]
  split
  · cases ops[i]? <;> rfl
  · rfl
theorem idled_yielded (ops : Array Oper) (m : Nat) (tmps : Array Value) : yielded (idled ops m) tmps = yielded ops tmps := by
  funext j
  have h : ((idled ops m)[j]?).bind (·.dst) = (ops[j]?).bind (·.dst) := by
    rw [idled_get]
    split
    · cases ops[j]? <;> rfl
    · rfl
  unfold yielded
  rw [h]
theorem any_end {ops : Array Oper} {fuel : Nat} {listed : Array Bool} {a : Act} {w : World} (hr : Region.ready md ops listed = []) : wpAny P md ops Q fuel listed a w ↔ Q .normal a w := by
  cases fuel with
  | zero => simp [wpAny, hr]
  | succ n => simp [wpAny, hr]
theorem any_last {ops : Array Oper} {m : Nat} {o : Oper} (hok : lastOK md ops m = true) (hm : ops[m]? = some o) : ∀ (fuel : Nat) (listed : Array Bool) (a : Act) (w : World), listed.size = ops.size → shutL md ops listed → listed.getD m true = false →
    wpAny P md (idled ops m) (lastQ P o Q) fuel listed a w → wpAny P md ops Q fuel listed a w := by
  have hms : m < ops.size := (Array.getElem?_eq_some_iff.1 hm).1
  have hpa := hok
  simp only [lastOK, Bool.and_eq_true, beq_iff_eq] at hpa
  have hog : o.guard = none ∧ o.dst = none := by
    have h2 := hpa.2
    rw [hm] at h2
    simp only [Option.all_some, Bool.and_eq_true, Option.isNone_iff_eq_none] at h2
    exact ⟨h2.1.1, h2.1.2⟩
  intro fuel
  induction fuel with
  | zero =>
    intro listed a w hs hsh hl h
    have h1 := h.1
    rw [idled_ready] at h1
    exact absurd h1 (ready_ne hok hs m hms hl)
  | succ fuel ih =>
    intro listed a w hs hsh hl h
    refine ⟨fun h1 => absurd h1 (ready_ne hok hs m hms hl), fun i hi => ?_⟩
    have h2 := h.2 i (by rw [idled_ready]; exact hi)
    by_cases him : i = m
    · subst him
      have hall := ready_last hok hsh hi
      have hend : Region.ready md ops (listed.setIfInBounds i true) = [] := by
        rw [List.eq_nil_iff_forall_not_mem]
        intro j hj
        obtain ⟨h3, oj, h4, _⟩ := mem_ready.1 hj
        have hjs : j < ops.size := (Array.getElem?_eq_some_iff.1 h4).1
        by_cases hji : i = j
        · subst hji
          rw [getD_set_same (by omega)] at h3
          cases h3
        · rw [getD_set_other hji] at h3
          have h5 := hall j (by omega)
          have h6 : j < listed.size := by omega
          simp [h6] at h3 h5
          rw [h3] at h5
          cases h5
      unfold wpOp at h2 ⊢
      rw [idled_get, if_pos rfl, hm] at h2
      rw [hm]
      simp only [Option.map_some] at h2 ⊢
      have hw1 : Region.wanted (idle o) (yielded (idled ops i) a.tmps) = true := by simp [Region.wanted, idle, hog.1]
      have hw2 : Region.wanted o (yielded ops a.tmps) = true := by simp [Region.wanted, hog.1]
      rw [if_pos hw1] at h2
      rw [if_pos hw2]
      rcases h2 with h2 | h2
      · left
        unfold Oper.wp at h2
        rw [idle_run] at h2
        simp only [Oper.upon] at h2
        rw [show (idle o).dst = none from hog.2, any_end (by rw [idled_ready]; exact hend)] at h2
        exact wp_turn (fun a' w' hq => (any_end hend).2 hq) (fun _ _ _ _ hq => hq) h2
      · exact absurd h2.1 (idle_asks o a w)
    · have hx : ops[i]? = (idled ops m)[i]? := by rw [idled_get, if_neg him]
      have hK : ∀ a' w', wpAny P md (idled ops m) (lastQ P o Q) fuel (listed.setIfInBounds i true) a' w' → wpAny P md ops Q fuel (listed.setIfInBounds i true) a' w' := fun a' w' hh =>
        ih _ a' w' (by simpa using hs) (shutL_set hsh hi) (by rw [getD_set_other him]; exact hl) hh
      have hQ : ∀ e a w, e ≠ .normal → lastQ P o Q e a w → Q e a w := fun e a w he hq => by cases e <;> first | exact hq | exact absurd rfl he
      unfold wpOp at h2 ⊢
      rw [idled_yielded, ← hx] at h2
      cases ho : ops[i]? with
      | none => rw [ho] at h2; exact hK _ _ h2
      | some oi =>
        rw [ho] at h2
        simp only at h2 ⊢
        split at h2
        · rename_i hw
          rw [if_pos hw]
          rcases h2 with h2 | h2
          · exact Or.inl (wp_turn hK hQ h2)
          · exact Or.inr ⟨h2.1, by obtain ⟨a, w, h3⟩ := h2.2; exact ⟨a, w, h3⟩⟩
        · rename_i hw
          rw [if_neg hw]
          exact hK _ _ h2
/-- THE LAW: the last operation is carried out behind the region. -/
theorem wp_region_last {id : Nat} {ops : Array Oper} {a : Act} {w : World} {S : World → Prop} (m : Nat) (o : Oper) (hf : P.follows .mixedOrders = true) (hok : lastOK .any ops m = true) (hm : ops[m]? = some o) (ops' : Array Oper) (ho : idled ops m = ops')
    (hS : S w.drew) (h : S w.drew → wpAnyH P .any ops' (lastQ P o Q) S ops'.size (Array.replicate ops'.size false) a w.drew) : (Code.region id ops true).wp P Q a w := by
  have hms : m < ops.size := (Array.getElem?_eq_some_iff.1 hm).1
  have hsz : ops'.size = ops.size := by rw [← ho]; simp [idled]
  refine wp_region_any hf (any_last hok hm _ _ _ _ (by simp) (fun j oj hj hl => ?_) (by simp [hms]) ?_)
  · have hjs : j < ops.size := (Array.getElem?_eq_some_iff.1 hj).1
    simp [hjs] at hl
  have h1 := wpAny_of_held _ _ _ _ (h hS)
  rw [hsz] at h1
  rw [ho]
  exact h1
end
end Go.Proofs.YtpmjbeiclmllmaaGreat
namespace Go.Proofs.YtpmjbeiclmllmaaGreat
open Go.RowKit
theorem info25r : (Tryz.prog.info? 25).map (fun i => (i.zero, i.size, i.bytes)) = some (some (.slice none 0 0), 1, 24) := by kernel_rfl
/-- append of a row that came in, nil or not, to one of the call's own. -/
theorem wp_append_came {P : Program} {w : World} {o : Oper} {a : Act} {K : Act → World → Prop} {Q : Exit → Act → World → Prop} (s x : Operand) (t : TypeId)
    (ho : o.op = .call { callee := .builtin .append, args := #[s, x], argTypes := #[t, t] })
    (base : Nat) (i : TypeInfo) (ht : P.underlying t = some (.slice 3)) (hi : P.info? 3 = some i) (hz : i.zero = some (.int .i64 0)) (hsize : i.size = 1) (hby : i.bytes = 8)
    (v : Value) (n : Nat) (xs : List Value) (hs : a.eval s = v) (hown : w.ownsRow base 3 1 v n xs) (hv : v ≠ .slice none 0 0)
    (r : Option Addr) (ys : List Int) (c : Nat) (hx : a.eval x = .slice r ys.length c) (hn : r = none → ys = [] ∧ c = 0) (hr : Ints w r ys)
    (h63 : n + ys.length ≤ maxLen) (hbytes : (n + ys.length) * 8 ≤ 140737488355328) (hbase : base ≤ w.heap.size)
    (h : ∀ v' w', w'.ownsRow base 3 1 v' (n + ys.length) (xs ++ cellsI ys) → w.grownBy w' v.ownBlock → v' ≠ .slice none 0 0 → K (a.put o.dst v') w') : o.wp P a w K Q := by
  match r, hx, hn, hr with
  | none, hx, hn, _ =>
    obtain ⟨rfl, rfl⟩ := hn rfl
    have hrun := run_append_owned_none (P := P) (w := w) base t o.type 3 i 1 ht hi v n xs hown
    unfold Oper.wp
    simp only [List.length_nil] at hx
    simp [execOp, ho, resolve, invoke, builtin, hs, hx, hrun, Result.andThen]
    exact h v w (by simpa [cellsI] using hown) (World.grownBy.refl _ _) hv
  | some ad, hx, _, hr =>
    have hnews := ints_news hr (.cells #[] 3)
    refine wp_append_own w s x t ho base 3 i (.int .i64 0) 1 8 ht hi hz hsize hby rfl (by decide) v n xs hs hown ad ys.length c (cellsI ys) hx (by rw [cellsI_len]; omega) (fun j u hu => ?_) (one_i ys) h63 hbytes hbase (fun v' w' h2 h3 h4 => h v' w' h2 h3 (fun e => hv (h4.1 e).1))
    have := hnews j u hu
    have hl : (ad.add j).block < w.heap.size := by
      rcases hr with h0 | ⟨b, o2, e1, hb, _⟩
      · subst h0; simp [cellsI] at hu
      · injection e1 with e1
        subst e1
        unfold Addr.add
        split <;> exact hb
    exact (World.cell?_of_block (w := w) (w' := w.alloc (.cells #[] 3)) (a := ad.add j) (Below.heap_alloc _ _ _ hl)).symm.trans this
theorem wpList_append_came {P : Program} {w : World} {ops : Array Oper} {rest : List Oper} {o : Oper} {a : Act} {Q : Exit → Act → World → Prop} (hgd : o.guard = none) (s x : Operand) (t : TypeId)
    (ho : o.op = .call { callee := .builtin .append, args := #[s, x], argTypes := #[t, t] })
    (base : Nat) (i : TypeInfo) (ht : P.underlying t = some (.slice 3)) (hi : P.info? 3 = some i) (hz : i.zero = some (.int .i64 0)) (hsize : i.size = 1) (hby : i.bytes = 8)
    (v : Value) (n : Nat) (xs : List Value) (hs : a.eval s = v) (hown : w.ownsRow base 3 1 v n xs) (hv : v ≠ .slice none 0 0)
    (r : Option Addr) (ys : List Int) (c : Nat) (hx : a.eval x = .slice r ys.length c) (hn : r = none → ys = [] ∧ c = 0) (hr : Ints w r ys)
    (h63 : n + ys.length ≤ maxLen) (hbytes : (n + ys.length) * 8 ≤ 140737488355328) (hbase : base ≤ w.heap.size)
    (h : ∀ v' w', w'.ownsRow base 3 1 v' (n + ys.length) (xs ++ cellsI ys) → w.grownBy w' v.ownBlock → v' ≠ .slice none 0 0 → wpList P ops Q rest (a.put o.dst v') w') : wpList P ops Q (o :: rest) a w :=
  wpList_plain hgd fun _ hK => wp_append_came s x t ho base i ht hi hz hsize hby v n xs hs hown hv r ys c hx hn hr h63 hbytes hbase fun v' w' h2 h3 h4 => hK _ _ (h v' w' h2 h3 h4)
/-- Rows that came in are nil or not, and not too great. -/
def RwB (C : List Cl) : Prop := C.length * 24 ≤ 140737488351232 ∧ ∀ j, j < C.length → ((cl C j).a = none → (cl C j).xs = [] ∧ (cl C j).c = 0) ∧ (cl C j).xs.length * 8 ≤ 140737488351232
/-- A copy of a nest, in rows of its own. -/
def CpO (w : World) (B : Nat) (ba : Option Addr) (bs : List Int) (bc : Nat) (ca : Option Addr) (V C : List Cl) (cc : Nat) : Prop :=
  w.ownsRow B 3 1 (.slice ba bs.length bc) bs.length (cellsI bs) ∧ w.ownsRow B 25 1 (.slice ca C.length cc) C.length (V.map Cl.val) ∧ V.length = C.length ∧ ∀ j, j < C.length → w.ownsRow B 3 1 (cl V j).val (cl V j).xs.length (cellsI (cl V j).xs) ∧ (cl V j).xs = (cl C j).xs
def CpI (w w' : World) (e : Ending) (bs : List Int) (C : List Cl) : Prop := ∃ ba bc ca V cc, e = .returned (.agg #[.slice ba bs.length bc, .slice ca C.length cc]) ∧ CpO w' w.heap.size ba bs bc ca V C cc ∧ Below w.heap.size w w'
theorem CpO.on {w w' : World} {B : Nat} {ba : Option Addr} {bs : List Int} {bc : Nat} {ca : Option Addr} {V C : List Cl} {cc : Nat} (h : CpO w B ba bs bc ca V C cc) (hb : Below w.heap.size w w') : CpO w' B ba bs bc ca V C cc := ⟨own_on h.1 hb, own_on h.2.1 hb, h.2.2.1, fun j hj => ⟨own_on (h.2.2.2 j hj).1 hb, (h.2.2.2 j hj).2⟩⟩
theorem own_typed {w : World} {B b i : Nat} {e t : TypeId} {size : Nat} {v : Value} {n : Nat} {xs : List Value} {cs : Array Value} (h : w.ownsRow B e size v n xs) (hg : w.heap[b]? = some (.cells cs t)) (hne : e ≠ t) (u : Value) : (w.setCell ⟨b, i, none⟩ u).ownsRow B e size v n xs := by
  rcases h with ⟨h0, h | ⟨g, c, cur, h1, h2, h3, h4⟩⟩
  · exact ⟨h0, Or.inl h⟩
  · have e1 : g ≠ b := by
      rintro rfl
      rw [hg] at h3
      injection h3 with e5
      injection e5 with e6 e7 e8
      exact hne e7.symm
    exact ⟨h0, Or.inr ⟨g, c, cur, h1, h2, (Below.heap_setCell w ⟨b, i, none⟩ u g e1).trans h3, h4⟩⟩
theorem CpO.far {w : World} {B b i : Nat} {t : TypeId} {ba : Option Addr} {bs : List Int} {bc : Nat} {ca : Option Addr} {V C : List Cl} {cc : Nat} {cs : Array Value} (h : CpO w B ba bs bc ca V C cc) (hg : w.heap[b]? = some (.cells cs t)) (h3 : 3 ≠ t) (h25 : 25 ≠ t) (u : Value) : CpO (w.setCell ⟨b, i, none⟩ u) B ba bs bc ca V C cc := ⟨own_typed h.1 hg h3 u, own_typed h.2.1 hg h25 u, h.2.2.1, fun j hj => ⟨own_typed (h.2.2.2 j hj).1 hg h3 u, (h.2.2.2 j hj).2⟩⟩
theorem CpO.rws {w : World} {B : Nat} {ba : Option Addr} {bs : List Int} {bc : Nat} {av : Option Addr} {V C : List Cl} {cv : Nat} (h : CpO w B ba bs bc av V C cv) (hb : ∀ j, j < C.length → (cl C j).xs.length ≤ 9223372036854775807) : Rws w av V ∧ csl V = csl C := by
  obtain ⟨_, h2, h3, h4⟩ := h
  refine ⟨⟨?_, fun j hj => ?_⟩, ?_⟩
  · by_cases h0 : V = []
    · exact .inl h0
    · right
      rcases h2.2 with ⟨_, h'⟩ | ⟨g, c', cur, h', hb', hg, hnc, hm, hcs, ht⟩
      · rw [h'] at h3; exact absurd (List.eq_nil_of_length_eq_zero h3) h0
      · injection h' with e1 e2 e3
        subst e1
        refine ⟨g, 0, rfl, lt_of_block hg, fun j hj => ?_⟩
        rw [Nat.zero_add]
        have h5 := World.ownsRow.cellAt h2 j (by rw [Nat.mul_one, ← h3]; exact hj)
        rw [h5, List.getElem?_map]
        simp [cl, List.getD, List.getElem?_eq_getElem hj]
  · obtain ⟨h5, h6⟩ := h4 j (by omega)
    refine ⟨ints_own h5, ?_⟩
    rw [h6]
    exact hb j (by omega)
  · unfold csl
    refine List.ext_getElem (by simp [h3]) (fun j h5 h6 => ?_)
    have h7 := (h4 j (by simpa [h3] using h5)).2
    have h8 : j < V.length := by simpa using h5
    have h9 : j < C.length := by simpa using h6
    simpa [cl, List.getD, h8, h9] using h7
theorem ints_far {w : World} {a : Option Addr} {xs : List Int} (h : Ints w a xs) (d k : Nat) (u : Value) (hn : ∀ b, a.map Addr.block = some b → b ≠ d) : Ints (w.setCell ⟨d, k, none⟩ u) a xs := by
  rcases h with h | ⟨b, o, rfl, hl, hc⟩
  · exact Or.inl h
  · exact Or.inr ⟨b, o, rfl, by simpa using hl, fun j hj => (World.cell?_of_block (w := w) (a := ⟨b, o + j, none⟩) (Below.heap_setCell w ⟨d, k, none⟩ u b (hn b rfl))).trans (hc j hj)⟩
/-- The copy as it is made. -/
def CpL (w : World) (q g1 c1 nb : Nat) (C V : List Cl) (k : Nat) (av : Option Addr) (cv : Nat) : Prop :=
  w.heap[q]? = some (.cells #[.slice (some ⟨g1, 0, none⟩) nb c1, .slice av k cv] 28) ∧ w.ownsRow (q + 1) 25 1 (.slice av k cv) k (V.map Cl.val) ∧ V.length = k ∧ ∀ j, j < k → w.ownsRow (q + 1) 3 1 (cl V j).val (cl V j).xs.length (cellsI (cl V j).xs) ∧ (cl V j).xs = (cl C j).xs
theorem cl_app_lt {V : List Cl} {x : Cl} {j : Nat} (h : j < V.length) : cl (V ++ [x]) j = cl V j := by simp [cl, List.getD, List.getElem?_append_left h]
theorem cl_app_eq (V : List Cl) (x : Cl) : cl (V ++ [x]) V.length = x := by simp [cl, List.getD]
theorem CpL.far {w : World} {q g1 c1 nb : Nat} {C V : List Cl} {k : Nat} {av : Option Addr} {cv : Nat} (h : CpL w q g1 c1 nb C V k av cv) (d i : Nat) (u : Value) (hd : d < q) : CpL (w.setCell ⟨d, i, none⟩ u) q g1 c1 nb C V k av cv :=
  ⟨(Below.heap_setCell w ⟨d, i, none⟩ u q (by show q ≠ d; omega)).trans h.1, own_set h.2.1 ⟨d, i, none⟩ u (by show d < q + 1; omega), h.2.2.1, fun j hj => ⟨own_set (h.2.2.2 j hj).1 ⟨d, i, none⟩ u (by show d < q + 1; omega), (h.2.2.2 j hj).2⟩⟩
set_option maxRecDepth 100000 in
set_option maxHeartbeats 3200000 in
theorem copyNest_any (ba : Option Addr) (bs : List Int) (bc : Nat) (ca : Option Addr) (C : List Cl) (cc : Nat) (w : World) (hblen : bs.length * 8 ≤ 140737488351232) (hbn : ba = none → bs = [] ∧ bc = 0) (hi : Ints w ba bs) (hR : Rws w ca C) (hB : RwB C) :
    Calls Tryz.prog 9 #[.agg #[.slice ba bs.length bc, .slice ca C.length cc]] w fun e w' => CpI w w' e bs C := by
  obtain ⟨i3, hi3, hz3, hs3, hby3⟩ := info_parts info3
  obtain ⟨i25, hi25, hz25, hs25, hby25⟩ := info_parts info25r
  obtain ⟨t0, t1, t2, t3, t4⟩ := top3 w (.cells #[.slice ba bs.length bc, .slice ca C.length cc] 28) (.cells #[.slice none 0 0, .slice none 0 0] 28) (.cells #[] 3)
  obtain ⟨⟨a0, a1⟩, _⟩ := two_cells t0
  have HN0 := Lib.hid t0
  have HZ0 := Lib.hid t1
  have HB0 := Lib.hid t3
  have HIB := Lib.hid (hi.on t3)
  have HRR := Lib.hid hR
  have HBB := Lib.hid hB
  have HO0 : Hid ((((w.alloc (.cells #[.slice ba bs.length bc, .slice ca C.length cc] 28)).alloc (.cells #[.slice none 0 0, .slice none 0 0] 28)).alloc (.cells #[] 3)).ownsRow (w.heap.size + 1 + 1) 3 1 (.slice (some ⟨w.heap.size + 1 + 1, 0, none⟩) 0 0) 0 []) := by
    have h := World.ownsRow_lit (base := w.heap.size + 1 + 1) (e := 3) (size := 1) ((w.alloc (.cells #[.slice ba bs.length bc, .slice ca C.length cc] 28)).alloc (.cells #[.slice none 0 0, .slice none 0 0] 28)) #[] 0 (by simp) (by decide) rfl
    have e : ((w.alloc (.cells #[.slice ba bs.length bc, .slice ca C.length cc] 28)).alloc (.cells #[.slice none 0 0, .slice none 0 0] 28)).heap.size = w.heap.size + 1 + 1 := by simp
    rw [e] at h
    exact h
  have HBN := Lib.hid hbn
  clear t0 t1 t2 t3 hi hR hB hbn
  generalize hp : w.heap.size = p at *
  go_enter Tryz.func9, Tryz.ntmps9
  go_wp2_with (at_builtin; go_must (refine wpList_append_came rfl (.tmp 5) (.tmp 7) 25 rfl (p + 1 + 1) i3 Tryz.underlying25 hi3 hz3 hs3 hby3 (.slice (some ⟨p + 1 + 1, 0, none⟩) 0 0) 0 [] rfl HO0.out (by simp) ba bs bc rfl HBN.out HIB.out (by unfold maxLen; omega) (by omega) (by rw [t4]; omega) ?_; intro v1 w1 hown1 hgrow1 hnil1; obtain ⟨g1, c1, hv1, hg1, hc1, hs1, hm1⟩ := own_shape hown1 hnil1; rw [hv1] at hown1 ⊢; clear hnil1 hv1; simp only [Nat.zero_add, List.nil_append] at hown1 hc1 ⊢; have HB1 : Hid (Below p w w1) := HB0.out.grown hgrow1 (by rw [t4]; omega) (fun k hk => (by have h2 : p + 1 + 1 = k := Option.some.inj hk; omega)); have HN1 : Hid (w1.heap[p]? = some (.cells #[.slice ba bs.length bc, .slice ca C.length cc] 28)) := (hgrow1.block p (by rw [t4]; omega) (fun h => (by have h2 : p = p + 1 + 1 := Option.some.inj h; omega))).trans HN0.out; have HZ1 : Hid (w1.heap[p + 1]? = some (.cells #[.slice none 0 0, .slice none 0 0] 28)) := (hgrow1.block (p + 1) (by rw [t4]; omega) (fun h => (by have h2 : p + 1 = p + 1 + 1 := Option.some.inj h; omega))).trans HZ0.out; have hw1 : p + 2 < w1.heap.size := (by have := hgrow1.size; rw [t4] at this; omega); have HI1 := Lib.hid hown1; clear hgrow1 hown1))
  have hl24 : C.length * 24 ≤ 140737488351232 := HBB.out.1
  have HBQ : Hid (Below w1.heap.size w1 (w1.alloc (.cells #[.slice (some ⟨g1, 0, none⟩) bs.length c1, .slice none 0 0] 28))) := (Below.refl _ _).alloc (Nat.le_refl _) _
  have HC0 : Hid (CpL (w1.alloc (.cells #[.slice (some ⟨g1, 0, none⟩) bs.length c1, .slice none 0 0] 28)) w1.heap.size g1 c1 bs.length C [] 0 none 0) := ⟨heap_top w1 _, World.ownsRow_nil _ _ _ _, rfl, fun j hj => absurd hj (by omega)⟩
  obtain ⟨bx, ox, hbx⟩ := HRR.out.get
  have HBX := Lib.hid hbx
  clear hbx a0 a1 HO0 HIB HB0 HN0 HZ0
  generalize w1.alloc (.cells #[.slice (some ⟨g1, 0, none⟩) bs.length c1, .slice none 0 0] 28) = w2 at *
  go_loopw [4] (fun i wr => ∃ (k : Nat) (V : List Cl) (av : Option Addr) (cv : Nat), k ≤ C.length ∧ i = .int .i64 k ∧ Hid (CpL wr w1.heap.size g1 c1 bs.length C V k av cv) ∧ Hid (Below w1.heap.size w1 wr)) (fun i _ => C.length - (intOf i).toNat)
  case atStart => exact ⟨0, [], none, 0, Nat.zero_le _, rfl, HC0, HBQ⟩
  case round =>
    clear HC0 HBQ
    obtain ⟨k, V, av, cv, hk, rfl, HCL, HBR⟩ := hrel
    have hN := (HBR.out.block p (by omega)).trans HN1.out
    obtain ⟨⟨a0, a1⟩, _⟩ := two_cells hN
    obtain ⟨⟨b0, b1⟩, bf0, bf1⟩ := two_cells HCL.out.1
    have hqw : w1.heap.size < wr.heap.size := lt_of_block HCL.out.1
    by_cases hlk : k < C.length
    · have hlk' : (k : Int) < C.length := by omega
      obtain ⟨rfl, hbl2, hcell⟩ := HBX.out (by omega)
      have hbw : Below p w wr := HB1.out.trans (HBR.out.mono (by omega))
      have d0 := (hbw.cell (p := ⟨bx, ox + k, none⟩) (hp ▸ hbl2)).trans (hcell k hlk)
      unfold Cl.val at d0
      obtain ⟨hrn, hrl⟩ := HBB.out.2 k hlk
      have hIR := (HRR.out.2 k hlk).1.on (hp ▸ hbw)
      obtain ⟨ra, rc, xs, HRA, HRC, HXS⟩ : ∃ ra rc xs, Hid ((cl C k).a = ra) ∧ Hid ((cl C k).c = rc) ∧ Hid ((cl C k).xs = xs) := ⟨_, _, _, rfl, rfl, rfl⟩
      rw [HRA.out, HRC.out, HXS.out] at d0
      rw [HRA.out, HRC.out, HXS.out] at hrn
      rw [HXS.out] at hrl
      rw [HRA.out, HXS.out] at hIR
      have HRN := Lib.hid hrn
      have HIR := Lib.hid hIR
      have hbw1 : bx < w1.heap.size := by have := HB1.out.size; omega
      have HSS : Hid (∀ W', Below (w1.heap.size + 1) wr W' → W'.cell? ⟨w1.heap.size, 1, none⟩ = some (.slice av k cv) ∧ W'.cell? ⟨p, 1, none⟩ = some (.slice (some ⟨bx, ox, none⟩) C.length cc) ∧ W'.cell? ⟨bx, ox + k, none⟩ = some (.slice ra xs.length rc)) := fun W' hb => ⟨(hb.cell (p := ⟨w1.heap.size, 1, none⟩) (Nat.lt_succ_self _)).trans b1, (hb.cell (p := ⟨p, 1, none⟩) (by show p < _; omega)).trans a1, (hb.cell (p := ⟨bx, ox + k, none⟩) (by show bx < _; omega)).trans d0⟩
      have hk0 : (0 : Int) ≤ k := by omega
      have HOV := Lib.hid HCL.out.2.1
      have HVR := Lib.hid HCL.out.2.2.2
      have HVL := Lib.hid HCL.out.2.2.1
      have HQ := Lib.hid HCL.out.1
      clear hcell hbw hrn hIR HCL hN
      go_wp2_with fail
      refine wp_region_last (S := fun w' => w'.cell? ⟨w1.heap.size, 1, none⟩ = some (.slice av k cv) ∧ w'.cell? ⟨p, 1, none⟩ = some (.slice (some ⟨bx, ox, none⟩) C.length cc) ∧ w'.cell? ⟨bx, ox + k, none⟩ = some (.slice ra xs.length rc)) 12 _ (by kernel_rfl) (by kernel_rfl) rfl _ rfl ?_ (fun hHeld => ?_)
      · exact HSS.out _ (Below.refl _ _).drew
      simp only [idled, List.modify_toArray, List.modify_succ_cons, List.modify_zero_cons, idle, List.size_toArray, List.length_cons, List.length_nil]
      refine wpAnyH_take (i := 0) (v := ?_) rfl (by kernel_rfl) (by decide +kernel) (by decide +kernel) (fun _ _ _ h => h) (Or.inl ⟨by rfl, ?_⟩) (by assumption) ?_
      rotate_left
      · intro w hSw
        (try dsimp only at hSw)
        go_simp
        (try with_reducible rfl)
      try simp only [Act.put, List.getElem_toArray, List.getElem_cons_zero, List.getElem_cons_succ, List.setIfInBounds_toArray, List.set_cons_zero, List.set_cons_succ]
      refine wpAnyH_take (i := 1) (v := ?_) rfl (by kernel_rfl) (by decide +kernel) (by decide +kernel) (fun _ _ _ h => h) (Or.inl ⟨by rfl, ?_⟩) (by assumption) ?_
      rotate_left
      · intro w hSw
        (try dsimp only at hSw)
        go_simp
        (try with_reducible rfl)
      try simp only [Act.put, List.getElem_toArray, List.getElem_cons_zero, List.getElem_cons_succ, List.setIfInBounds_toArray, List.set_cons_zero, List.set_cons_succ]
      refine wpAnyH_take (i := 3) (v := ?_) rfl (by kernel_rfl) (by decide +kernel) (by decide +kernel) (fun _ _ _ h => h) (Or.inl ⟨by rfl, ?_⟩) (by assumption) ?_
      rotate_left
      · intro w hSw
        (try dsimp only at hSw)
        go_simp
        (try with_reducible rfl)
      try simp only [Act.put, List.getElem_toArray, List.getElem_cons_zero, List.getElem_cons_succ, List.setIfInBounds_toArray, List.set_cons_zero, List.set_cons_succ]
      refine wpAnyH_take (i := 4) (v := ?_) rfl (by kernel_rfl) (by decide +kernel) (by decide +kernel) (fun _ _ _ h => h) (Or.inl ⟨by rfl, ?_⟩) (by assumption) ?_
      rotate_left
      · intro w hSw
        (try dsimp only at hSw)
        go_simp
        (try with_reducible rfl)
      try simp only [Act.put, List.getElem_toArray, List.getElem_cons_zero, List.getElem_cons_succ, List.setIfInBounds_toArray, List.set_cons_zero, List.set_cons_succ]
      refine wpAnyH_take (i := 5) (v := ?_) rfl (by kernel_rfl) (by decide +kernel) (by decide +kernel) (fun _ _ _ h => h) (Or.inl ⟨by rfl, ?_⟩) (by assumption) ?_
      rotate_left
      · intro w hSw
        (try dsimp only at hSw)
        go_simp
        (try with_reducible rfl)
      try simp only [Act.put, List.getElem_toArray, List.getElem_cons_zero, List.getElem_cons_succ, List.setIfInBounds_toArray, List.set_cons_zero, List.set_cons_succ]
      refine wpAnyH_take (i := 6) (v := ?_) rfl (by kernel_rfl) (by decide +kernel) (by decide +kernel) (fun _ _ _ h => h) (Or.inl ⟨by rfl, ?_⟩) (by assumption) ?_
      rotate_left
      · intro w hSw
        (try dsimp only at hSw)
        go_simp
        (try with_reducible rfl)
      try simp only [Act.put, List.getElem_toArray, List.getElem_cons_zero, List.getElem_cons_succ, List.setIfInBounds_toArray, List.set_cons_zero, List.set_cons_succ]
      refine wpAnyH_take (i := 7) (v := ?_) rfl (by kernel_rfl) (by decide +kernel) (by decide +kernel) (fun _ _ _ h => h) (Or.inl ⟨by rfl, ?_⟩) (by assumption) ?_
      rotate_left
      · intro w hSw
        (try dsimp only at hSw)
        go_simp
        (try with_reducible rfl)
      try simp only [Act.put, List.getElem_toArray, List.getElem_cons_zero, List.getElem_cons_succ, List.setIfInBounds_toArray, List.set_cons_zero, List.set_cons_succ]
      refine wpAnyH_ready (rs := [2]) (by kernel_rfl) (by simp) ?_
      refine AllReadyH.cons rfl (fun K hK => ?_) AllReadyH.nil
      go_simp
      refine hK.out _ _ ?_ (fun hHeld2 => ?_)
      · exact HSS.out _ ((Below.refl _ _).drew.alloc (by simp; omega) _)
      clear hK K
      try simp only [Act.put, List.getElem_toArray, List.getElem_cons_zero, List.getElem_cons_succ, List.setIfInBounds_toArray, List.set_cons_zero, List.set_cons_succ]
      have HO3 : Hid ((wr.drew.alloc (.cells #[] 3)).ownsRow wr.heap.size 3 1 (.slice (some ⟨wr.heap.size, 0, none⟩) 0 0) 0 []) := World.ownsRow_lit (base := wr.heap.size) (e := 3) (size := 1) wr.drew #[] 0 (Nat.le_refl _) (by decide) rfl
      have HBa : Hid (Below wr.heap.size wr (wr.drew.alloc (.cells #[] 3))) := (Below.refl _ _).drew.alloc (by simp) _
      have hsa : (wr.drew.alloc (.cells #[] 3)).heap.size = wr.heap.size + 1 := by simp
      refine wpAnyH_ready (rs := [8]) (by kernel_rfl) (by simp) ?_
      refine AllReadyH.cons rfl (fun K hK => ?_) AllReadyH.nil
      rw [if_pos (by rfl)]
      refine wp_append_came (.tmp 19) (.tmp 24) 25 rfl wr.heap.size i3 Tryz.underlying25 hi3 hz3 hs3 hby3 (.slice (some ⟨wr.heap.size, 0, none⟩) 0 0) 0 [] rfl HO3.out (by simp) ra xs rc rfl HRN.out (HIR.out.on HBa.out) (by unfold maxLen; omega) (by omega) (by show wr.heap.size ≤ (wr.alloc (.cells #[] 3)).heap.size; simp) ?_
      intro v3 w3 hown3 hgrow3 hnil3
      obtain ⟨g3, c3, hv3, hg3, hc3, hs3', hm3⟩ := own_shape hown3 hnil3
      rw [hv3] at hown3 ⊢
      simp only [Nat.zero_add, List.nil_append] at hown3 hc3 ⊢
      have HB3 : Hid (Below wr.heap.size wr w3) := HBa.out.grown hgrow3 (by rw [hsa]; omega) (fun j hj => by have h2 : wr.heap.size = j := Option.some.inj hj; omega)
      have HO4 := Lib.hid hown3
      refine hK.out _ _ ?_ (fun hHeld3 => ?_)
      · exact HSS.out _ (HB3.out.mono (by omega))
      clear hK K hown3 hgrow3 hnil3 hv3 HBa HO3
      try simp only [Act.put, List.getElem_toArray, List.getElem_cons_zero, List.getElem_cons_succ, List.setIfInBounds_toArray, List.set_cons_zero, List.set_cons_succ]
      have hz3' := HB3.out.size
      have HNW : Hid (∀ j u, [Value.slice (some ⟨g3, 0, none⟩) xs.length c3][j]? = some u → (w3.alloc (.cells #[.slice (some ⟨g3, 0, none⟩) xs.length c3] 25)).cell? ((⟨w3.heap.size, 0, none⟩ : Addr).add j) = some u) := by
        intro j u hu
        match j, hu with
        | 0, hu => simp at hu; subst hu; simp [Addr.add]
      have HB4 : Hid (Below wr.heap.size wr (w3.alloc (.cells #[.slice (some ⟨g3, 0, none⟩) xs.length c3] 25))) := HB3.out.alloc (by omega) _
      have HOV4 : Hid ((w3.alloc (.cells #[.slice (some ⟨g3, 0, none⟩) xs.length c3] 25)).ownsRow (w1.heap.size + 1) 25 1 (.slice av k cv) k (V.map Cl.val)) := own_on HOV.out HB4.out
      have hsz4 : (w3.alloc (.cells #[.slice (some ⟨g3, 0, none⟩) xs.length c3] 25)).heap.size = w3.heap.size + 1 := by simp
      refine wpAnyH_ready (rs := [9]) (by kernel_rfl) (by simp) ?_
      refine AllReadyH.cons rfl (fun K hK => ?_) AllReadyH.nil
      go_simp
      refine hK.out _ _ ?_ (fun hHeld4 => ?_)
      · exact HSS.out _ (HB4.out.mono (by omega))
      clear hK K
      try simp only [Act.put, List.getElem_toArray, List.getElem_cons_zero, List.getElem_cons_succ, List.setIfInBounds_toArray, List.set_cons_zero, List.set_cons_succ]
      refine wpAnyH_ready (rs := [10]) (by kernel_rfl) (by simp) ?_
      refine AllReadyH.cons rfl (fun K hK => ?_) AllReadyH.nil
      rw [if_pos (by rfl)]
      refine wp_append_own _ (.tmp 18) (.tmp 26) 26 rfl (w1.heap.size + 1) 25 i25 (.slice none 0 0) 1 24 Tryz.underlying26 hi25 hz25 hs25 hby25 rfl (by decide) (.slice av k cv) k (V.map Cl.val) rfl HOV4.out ⟨w3.heap.size, 0, none⟩ 1 1 [.slice (some ⟨g3, 0, none⟩) xs.length c3] rfl rfl HNW.out (by intro u hu; simp at hu; subst hu; rfl) (by unfold maxLen; omega) (by omega) (by omega) ?_
      intro v5 w5 hown5 hgrow5 hnil5
      obtain ⟨g5, c5, hv5, hg5, hc5, hs5, hm5⟩ := own_shape hown5 (fun e => by have := (hnil5.1 e).2; simp at this)
      rw [hv5] at hown5 ⊢
      have HB5 : Hid (Below (w1.heap.size + 1) wr w5) := (HB4.out.mono (by omega)).grown hgrow5 (by omega) (fun j hj => (HOV4.out.lt j hj).1)
      have HO5 := Lib.hid hown5
      have HO4' : Hid ((w3.alloc (.cells #[.slice (some ⟨g3, 0, none⟩) xs.length c3] 25)).ownsRow wr.heap.size 3 1 (.slice (some ⟨g3, 0, none⟩) xs.length c3) xs.length (cellsI xs)) := HO4.out.alloc _
      have HO6 : Hid (w5.ownsRow (w1.heap.size + 1) 3 1 (.slice (some ⟨g3, 0, none⟩) xs.length c3) xs.length (cellsI xs)) := own_base (own_kept HO4'.out HOV4.out (by decide) hgrow5) (by omega)
      have HVR5 : Hid (∀ j, j < k → w5.ownsRow (w1.heap.size + 1) 3 1 (cl V j).val (cl V j).xs.length (cellsI (cl V j).xs) ∧ (cl V j).xs = (cl C j).xs) := fun j hj => ⟨own_kept (own_on (HVR.out j hj).1 HB4.out) HOV4.out (by decide) hgrow5, (HVR.out j hj).2⟩
      have HQ5 : Hid (w5.heap[w1.heap.size]? = some (.cells #[.slice (some ⟨g1, 0, none⟩) bs.length c1, .slice av k cv] 28)) := (HB5.out.block _ (Nat.lt_succ_self _)).trans HQ.out
      refine hK.out _ _ ?_ (fun hHeld5 => ?_)
      · exact HSS.out _ HB5.out
      clear hK K hown5 hgrow5 hnil5 hv5
      try simp only [Act.put, List.getElem_toArray, List.getElem_cons_zero, List.getElem_cons_succ, List.setIfInBounds_toArray, List.set_cons_zero, List.set_cons_succ]
      refine wpAnyH_take (i := 11) (v := ?_) rfl (by kernel_rfl) (by decide +kernel) (by decide +kernel) (fun _ _ _ h => h) (Or.inl ⟨by rfl, ?_⟩) (by assumption) ?_
      rotate_left
      · intro w hSw
        (try dsimp only at hSw)
        go_simp
        (try with_reducible rfl)
      try simp only [Act.put, List.getElem_toArray, List.getElem_cons_zero, List.getElem_cons_succ, List.setIfInBounds_toArray, List.set_cons_zero, List.set_cons_succ]
      refine wpAnyH_take (i := 12) (v := ?_) rfl (by kernel_rfl) (by decide +kernel) (by decide +kernel) (fun _ _ _ h => h) (Or.inl ⟨by rfl, ?_⟩) (by assumption) ?_
      rotate_left
      · intro w hSw
        (try dsimp only at hSw)
        go_simp
        (try with_reducible rfl)
      try simp only [Act.put]
      refine wpAnyH_done (by kernel_rfl) ?_ _
      simp only [lastQ]
      obtain ⟨⟨z0, z1⟩, zf0, zf1⟩ := two_cells HQ5.out
      go_simp
      clear hHeld hHeld2 hHeld3 hHeld4 hHeld5
      have HBE : Hid (Below w1.heap.size w1 (w5.setCell ⟨w1.heap.size, 1, none⟩ (.slice (some ⟨g5, 0, none⟩) (k + 1) c5))) := (HBR.out.trans (HB5.out.mono (by omega))).setCell (p := ⟨w1.heap.size, 1, none⟩) (Nat.le_refl _) _
      have HCE : Hid (CpL (w5.setCell ⟨w1.heap.size, 1, none⟩ (.slice (some ⟨g5, 0, none⟩) (k + 1) c5)) w1.heap.size g1 c1 bs.length C (V ++ [⟨some ⟨g3, 0, none⟩, c3, xs⟩]) (k + 1) (some ⟨g5, 0, none⟩) c5) := by
        refine ⟨?_, ?_, by rw [List.length_append, HVL.out]; rfl, fun j hj => ?_⟩
        · have h := heap_setCell_same w5 w1.heap.size 1 _ _ (.slice (some ⟨g5, 0, none⟩) (k + 1) c5) HQ5.out
          exact h.trans (by simp)
        · have h := own_set HO5.out ⟨w1.heap.size, 1, none⟩ (.slice (some ⟨g5, 0, none⟩) (k + 1) c5) (Nat.lt_succ_self _)
          rw [List.map_append]
          exact h
        · rcases Nat.lt_or_ge j k with h | h
          · rw [cl_app_lt (by rw [HVL.out]; exact h)]
            exact ⟨own_set (HVR5.out j h).1 ⟨w1.heap.size, 1, none⟩ _ (Nat.lt_succ_self _), (HVR5.out j h).2⟩
          · have e : j = V.length := by rw [HVL.out]; omega
            rw [e, cl_app_eq, HVL.out, HXS.out]
            exact ⟨own_set HO6.out ⟨w1.heap.size, 1, none⟩ _ (Nat.lt_succ_self _), rfl⟩
      go_wp2_with fail
      exact ⟨⟨k + 1, _, _, _, by omega, by simp, HCE, HBE⟩, by simp [intOf]; omega⟩
    · obtain rfl : k = C.length := by omega
      have hlk' : ¬ (C.length : Int) < C.length := by omega
      have HI4 := Lib.hid (own_on HI1.out HBR.out)
      have hZ := (HBR.out.block (p + 1) (by omega)).trans HZ1.out
      obtain ⟨⟨y0, y1⟩, yf0, yf1⟩ := two_cells hZ
      have HZZ := Lib.hid hZ
      have HBF : Hid (Below p w wr) := HB1.out.trans (HBR.out.mono (by omega))
      have HGE : Hid (((wr.setCell ⟨p + 1, 0, none⟩ (.slice (some ⟨g1, 0, none⟩) bs.length c1)).setCell ⟨p + 1, 1, none⟩ (.slice av C.length cv)).heap[p + 1]? = some (.cells #[.slice (some ⟨g1, 0, none⟩) bs.length c1, .slice av C.length cv] 28)) := by
        have h1 := heap_setCell_same wr (p + 1) 0 _ _ (.slice (some ⟨g1, 0, none⟩) bs.length c1) HZZ.out
        exact (heap_setCell_same _ (p + 1) 1 _ _ (.slice av C.length cv) h1).trans (by simp)
      have HBG : Hid (Below p w ((wr.setCell ⟨p + 1, 0, none⟩ (.slice (some ⟨g1, 0, none⟩) bs.length c1)).setCell ⟨p + 1, 1, none⟩ (.slice av C.length cv))) := (HBF.out.setCell (p := ⟨p + 1, 0, none⟩) (by simp) _).setCell (p := ⟨p + 1, 1, none⟩) (by simp) _
      have HIG : Hid (((wr.setCell ⟨p + 1, 0, none⟩ (.slice (some ⟨g1, 0, none⟩) bs.length c1)).setCell ⟨p + 1, 1, none⟩ (.slice av C.length cv)).ownsRow p 3 1 (.slice (some ⟨g1, 0, none⟩) bs.length c1) bs.length (cellsI bs)) := own_base (own_set (own_set HI4.out ⟨p + 1, 0, none⟩ _ (Nat.lt_succ_self _)) ⟨p + 1, 1, none⟩ _ (Nat.lt_succ_self _)) (by omega)
      have HRG := Lib.hid ((HCL.out.far (p + 1) 0 (.slice (some ⟨g1, 0, none⟩) bs.length c1) (by omega)).far (p + 1) 1 (.slice av C.length cv) (by omega))
      go_wp2_with fail
      generalize hU : (wr.setCell ⟨p + 1, 0, none⟩ (.slice (some ⟨g1, 0, none⟩) bs.length c1)).setCell ⟨p + 1, 1, none⟩ (.slice av C.length cv) = U at *
      clear hU
      try simp only [Exit.inBlock, Exit.then]
      refine bodyPost_ret (results_cell_row (P := Tryz.prog) rfl _ _ (p + 1) 28 _ _ _ rfl HGE.out Tryz.underlying28 rfl (by kernel_rfl)) rfl ?_
      have hq1 : p ≤ w1.heap.size + 1 := by omega
      unfold CpI
      rw [hp]
      exact ⟨_, _, _, V, _, rfl, ⟨HIG.out, own_base HRG.out.2.1 hq1, HRG.out.2.2.1, fun j hj => ⟨own_base (HRG.out.2.2.2 j hj).1 hq1, (HRG.out.2.2.2 j hj).2⟩⟩, HBG.out⟩
end Go.Proofs.YtpmjbeiclmllmaaGreat
