/-
  Contract of the book's LendGraph: a graph of its own, with a mark behind its arcs.
-/
import Derived.Test.YtgkpmcpkobphpaaTWeigh
namespace Go.Proofs.Ytgkpmcpkobphpaa.T3
open Go.RowKit
/-- The mark behind. -/
def A.mark : A := ⟨-77, 0, 0⟩
/-- A graph that is lent. -/
def Lent (w w' : World) (e : Ending) (N : Int) (l : List A) : Prop :=
  ∃ g c, e = .returned (.agg #[.int .i64 N, .slice (some ⟨g, 0, none⟩) l.length c]) ∧ l.length < c ∧ c ≤ 9223372036854775807 ∧ w'.ownsRow w.heap.size 42 3 (.slice (some ⟨g, 0, none⟩) (l.length + 1) c) (l.length + 1) (cellsA (l ++ [A.mark])) ∧ Below w.heap.size w w'
theorem mark_news (w : World) : ∀ j u, (cellsA [A.mark])[j]? = some u → (w.alloc (.cells #[.int .i64 (-77), .int .i64 0, .int .u32 0] 42)).cell? ((⟨w.heap.size, 0, none⟩ : Addr).add j) = some u := by
  intro j u hu
  obtain ⟨h0, h1, h2⟩ := three_cells (heap_top w (.cells #[.int .i64 (-77), .int .i64 0, .int .u32 0] 42))
  rw [Go.WideShapes.add_plain, Nat.zero_add]
  match j, hu with
  | 0, hu => simp [cellsA, A.mark] at hu; subst hu; exact h0
  | 1, hu => simp [cellsA, A.mark] at hu; subst hu; exact h1
  | 2, hu => simp [cellsA, A.mark] at hu; subst hu; exact h2
  | j + 3, hu => simp [cellsA] at hu
set_option maxRecDepth 100000 in
set_option maxHeartbeats 1600000 in
theorem lend_some (N : Int) (ad : Addr) (l : List A) (cap : Nat) (w : World) (hlen : l.length * 24 ≤ 140737488351232) (hr : Arcs w (some ad) l) :
    Calls Try.prog 10 #[.agg #[.int .i64 N, .slice (some ad) l.length cap]] w fun e w' => Lent w w' e N l := by
  obtain ⟨i0, hi, hz0, hz1, hz2⟩ := info_parts info53
  have hb0 : Below w.heap.size w ((w.alloc (.cells #[.int .i64 N, .slice (some ad) l.length cap] 24)).alloc (.cells #[.int .i64 0, .slice none 0 0] 24)) := ((Below.refl _ _).alloc (Nat.le_refl _) _).alloc (by simp) _
  have hg : ((w.alloc (.cells #[.int .i64 N, .slice (some ad) l.length cap] 24)).alloc (.cells #[.int .i64 0, .slice none 0 0] 24)).heap[w.heap.size]? = some (.cells #[.int .i64 N, .slice (some ad) l.length cap] 24) := (Below.heap_alloc _ _ _ (by simp)).trans (heap_top w _)
  have h1 := heap_top (w.alloc (.cells #[.int .i64 N, .slice (some ad) l.length cap] 24)) (.cells #[.int .i64 0, .slice none 0 0] 24)
  rw [show (w.alloc (.cells #[.int .i64 N, .slice (some ad) l.length cap] 24)).heap.size = w.heap.size + 1 by simp] at h1
  generalize hW : (w.alloc (.cells #[.int .i64 N, .slice (some ad) l.length cap] 24)).alloc (.cells #[.int .i64 0, .slice none 0 0] 24) = W at *
  obtain ⟨⟨g0, g1⟩, gf0, gf1⟩ := two_cells hg
  have HN := Lib.hid (clone_news (hr.on hb0) (.cells #[] 42))
  have HL := Lib.hid (cellsA_len l)
  have HA : Hid (cellsA l ++ cellsA [A.mark] = cellsA (l ++ [A.mark])) := (cellsA_append l [A.mark]).symm
  have hown0 := World.ownsRow_lit (base := W.heap.size) (e := 42) (size := 3) W #[] 0 (Nat.le_refl _) (by decide) rfl
  have s0 := lt_of_block hg
  have s1 := lt_of_block h1
  go_enter Try.func10, Try.ntmps10
  go_wp2_with (first
    | (at_builtin; refine wpList_append_own _ rfl (.tmp 4) (.tmp 6) 22 rfl W.heap.size 42 i0 _ 3 24 Try.underlying22 hi hz0 hz1 hz2 rfl (by decide) (.slice (some ⟨W.heap.size, 0, none⟩) 0 0) 0 [] rfl hown0 ad l.length cap (cellsA l) rfl HL.out HN.out (cellsA_one l) (by unfold maxLen; omega) (by omega) (by simp) ?_; intro v1 w1 hown1 hgrow1 hnil1; obtain ⟨g1', c1, hv1, hg1, hc1, hs1, hm1⟩ := own_shape hown1 (fun e => by have := hnil1.1 e; simp at this); rw [hv1] at hown1 ⊢; clear hnil1 hv1; simp only [Nat.zero_add, List.nil_append] at hown1 hc1 ⊢)
    | (at_builtin; refine wpList_append_own _ rfl (.tmp 8) (.tmp 10) 22 rfl W.heap.size 42 i0 _ 3 24 Try.underlying22 hi hz0 hz1 hz2 rfl (by decide) (.slice (some ⟨g1', 0, none⟩) l.length c1) l.length (cellsA l) rfl (hown1.alloc _) ⟨w1.heap.size, 0, none⟩ 1 1 (cellsA [A.mark]) rfl rfl (mark_news w1) (cellsA_one _) (by unfold maxLen; omega) (by omega) (by simp; omega) ?_; intro v2 w2 hown2 hgrow2 hnil2; obtain ⟨g2, c2, hv2, hg2, hc2, hs2, hm2⟩ := own_shape hown2 (fun e => by have := hnil2.1 e; simp at this); rw [hv2] at hown2 ⊢; clear hnil2 hv2))
  have b1 : Below W.heap.size W w1 := ((Below.refl W.heap.size W).alloc (Nat.le_refl _) _).grown hgrow1 (by simp) (by intro k hk; cases hk; exact Nat.le_refl _)
  have b2 : Below W.heap.size W w2 := (b1.alloc b1.size _).grown hgrow2 (by have := b1.size; simp; omega) (by intro k hk; cases hk; exact hg1)
  have hg2' := (b2.block _ s0).trans hg
  have hh2' := (b2.block _ s1).trans h1
  have bw := bthen hb0 b2 hb0.size
  rw [HA.out] at hown2
  clear hown1 hgrow1 hgrow2 g0 g1 gf0 gf1 hown0 HN hW b1 b2
  obtain ⟨⟨g0, g1⟩, gf0, gf1⟩ := two_cells hg2'
  obtain ⟨⟨r0, r1⟩, rf0, rf1⟩ := two_cells hh2'
  have k1 : (l.length : Int) ≤ (c2 : Int) := by omega
  have k2 : (0 : Int) ≤ (l.length : Int) := by omega
  have HO := Lib.hid hown2
  clear hown2
  go_region
  go_wp2_with fail
  refine bodyPost_ret (v := .agg #[.int .i64 N, .slice (some ⟨g2, 0, none⟩) l.length c2]) (by simp [results, Try.results10, go_sem, r0, r1]) rfl ⟨g2, c2, rfl, by omega, hm2, ?_, ((bw.setCell (by show _ ≤ w.heap.size + 1; omega) _).setCell (by show _ ≤ w.heap.size + 1; omega) _).drew⟩
  exact own_base (ownsRow_setCell_below (ownsRow_setCell_below HO.out (show w.heap.size + 1 < W.heap.size by omega) _) (show w.heap.size + 1 < W.heap.size by omega) _) (by omega)
set_option maxRecDepth 100000 in
set_option maxHeartbeats 1600000 in
theorem lend_none (N : Int) (w : World) :
    Calls Try.prog 10 #[.agg #[.int .i64 N, .slice none 0 0]] w fun e w' => Lent w w' e N [] := by
  obtain ⟨i0, hi, hz0, hz1, hz2⟩ := info_parts info53
  have hb0 : Below w.heap.size w ((w.alloc (.cells #[.int .i64 N, .slice none 0 0] 24)).alloc (.cells #[.int .i64 0, .slice none 0 0] 24)) := ((Below.refl _ _).alloc (Nat.le_refl _) _).alloc (by simp) _
  have hg : ((w.alloc (.cells #[.int .i64 N, .slice none 0 0] 24)).alloc (.cells #[.int .i64 0, .slice none 0 0] 24)).heap[w.heap.size]? = some (.cells #[.int .i64 N, .slice none 0 0] 24) := (Below.heap_alloc _ _ _ (by simp)).trans (heap_top w _)
  have h1 := heap_top (w.alloc (.cells #[.int .i64 N, .slice none 0 0] 24)) (.cells #[.int .i64 0, .slice none 0 0] 24)
  rw [show (w.alloc (.cells #[.int .i64 N, .slice none 0 0] 24)).heap.size = w.heap.size + 1 by simp] at h1
  generalize hW : (w.alloc (.cells #[.int .i64 N, .slice none 0 0] 24)).alloc (.cells #[.int .i64 0, .slice none 0 0] 24) = W at *
  obtain ⟨⟨g0, g1⟩, gf0, gf1⟩ := two_cells hg
  have hown0 := World.ownsRow_lit (base := W.heap.size) (e := 42) (size := 3) W #[] 0 (Nat.le_refl _) (by decide) rfl
  have s0 := lt_of_block hg
  have s1 := lt_of_block h1
  have HM : Hid ([] ++ cellsA [A.mark] = cellsA ([] ++ [A.mark])) := rfl
  have hmk := mark_news (W.alloc (.cells #[] 42))
  rw [show (W.alloc (.cells #[] 42)).heap.size = W.heap.size + 1 by simp] at hmk
  have HMK := Lib.hid hmk
  clear hmk
  go_enter Try.func10, Try.ntmps10
  go_wp2_with (first
    | (at_builtin; refine wpList_append_own_none rfl (.tmp 4) (.tmp 6) 22 rfl W.heap.size 42 i0 3 Try.underlying22 hi (.slice (some ⟨W.heap.size, 0, none⟩) 0 0) 0 [] rfl hown0 rfl ?_)
    | (at_builtin; refine wpList_append_own _ rfl (.tmp 8) (.tmp 10) 22 rfl W.heap.size 42 i0 _ 3 24 Try.underlying22 hi hz0 hz1 hz2 rfl (by decide) (.slice (some ⟨W.heap.size, 0, none⟩) 0 0) 0 [] rfl (hown0.alloc _) ⟨W.heap.size + 1, 0, none⟩ 1 1 (cellsA [A.mark]) rfl rfl HMK.out (cellsA_one _) (by decide) (by decide) (by simp; omega) ?_; intro v2 w2 hown2 hgrow2 hnil2; obtain ⟨g2, c2, hv2, hg2, hc2, hs2, hm2⟩ := own_shape hown2 (fun e => by have := hnil2.1 e; simp at this); rw [hv2] at hown2 ⊢; clear hnil2 hv2; simp only [Nat.zero_add] at hown2 hc2 ⊢))
  have b2 : Below W.heap.size W w2 := (((Below.refl W.heap.size W).alloc (Nat.le_refl _) _).alloc (by simp) _).grown hgrow2 (by simp; omega) (by intro k hk; cases hk; exact Nat.le_refl _)
  have hg2' := (b2.block _ s0).trans hg
  have hh2' := (b2.block _ s1).trans h1
  have bw := bthen hb0 b2 hb0.size
  clear hgrow2 g0 g1 gf0 gf1 hown0 hW b2 HMK
  obtain ⟨⟨g0, g1⟩, gf0, gf1⟩ := two_cells hg2'
  obtain ⟨⟨r0, r1⟩, rf0, rf1⟩ := two_cells hh2'
  have k1 : (0 : Int) ≤ (c2 : Int) := by omega
  have HO := Lib.hid hown2
  clear hown2
  go_region
  go_wp2_with fail
  refine bodyPost_ret (v := .agg #[.int .i64 N, .slice (some ⟨g2, 0, none⟩) 0 c2]) (by simp [results, Try.results10, go_sem, r0, r1]) rfl ⟨g2, c2, rfl, by show 0 < c2; omega, hm2, ?_, ((bw.setCell (by show _ ≤ w.heap.size + 1; omega) _).setCell (by show _ ≤ w.heap.size + 1; omega) _).drew⟩
  exact own_base (ownsRow_setCell_below (ownsRow_setCell_below HO.out (show w.heap.size + 1 < W.heap.size by omega) _) (show w.heap.size + 1 < W.heap.size by omega) _) (by omega)
theorem lend_any (N : Int) (a : Option Addr) (l : List A) (cap : Nat) (w : World) (hlen : l.length * 24 ≤ 140737488351232) (hn : a = none → l = [] ∧ cap = 0) (hr : Arcs w a l) :
    Calls Try.prog 10 #[.agg #[.int .i64 N, .slice a l.length cap]] w fun e w' => Lent w w' e N l := by
  match a, hn, hr with
  | none, hn, _ =>
    obtain ⟨e1, e2⟩ := hn rfl
    subst e1 e2
    exact lend_none N w
  | some ad, _, hr => exact lend_some N ad l cap w hlen hr
end Go.Proofs.Ytgkpmcpkobphpaa.T3
