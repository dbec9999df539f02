/-
  Lists of numbers that are lent, and kept. Contract of the book's KeptGraph, at a graph that was kept: true. Contract of the book's LendGraph: a graph of its own, with a mark behind its arcs.
-/
import Derived.Test.YtgpaoiddjlpcmaaZAR
import Derived.Deep.RegionHeld3
import Derived.Test.YtgpaoiddjlpcmaaZAA
namespace Go.Proofs.Ytgpaoiddjlpcmaa
open Go.RowKit
/-- The mark behind. -/
def A.mark : A := ⟨-77, 0, 0⟩
/-- A graph that is lent. -/
def Lent (w w' : World) (e : Ending) (N : Int) (l : List A) : Prop :=
  ∃ g c, e = .returned (.agg #[.int .i64 N, .slice (some ⟨g, 0, none⟩) l.length c]) ∧ l.length < c ∧ c ≤ 9223372036854775807 ∧ w'.ownsRow w.heap.size 51 3 (.slice (some ⟨g, 0, none⟩) (l.length + 1) c) (l.length + 1) (cellsA (l ++ [A.mark])) ∧ Below w.heap.size w w'
theorem mark_news (w : World) : ∀ j u, (cellsA [A.mark])[j]? = some u → (w.alloc (.cells #[.int .i64 (-77), .int .i64 0, .int .u32 0] 51)).cell? ((⟨w.heap.size, 0, none⟩ : Addr).add j) = some u := by
  intro j u hu
  obtain ⟨h0, h1, h2⟩ := three_cells (heap_top w (.cells #[.int .i64 (-77), .int .i64 0, .int .u32 0] 51))
  rw [Go.WideShapes.add_plain, Nat.zero_add]
  match j, hu with
  | 0, hu => simp [cellsA, A.mark] at hu; subst hu; exact h0
  | 1, hu => simp [cellsA, A.mark] at hu; subst hu; exact h1
  | 2, hu => simp [cellsA, A.mark] at hu; subst hu; exact h2
  | j + 3, hu => simp [cellsA] at hu
set_option maxHeartbeats 1600000 in
theorem lend_some (N : Int) (ad : Addr) (l : List A) (cap : Nat) (w : World) (hlen : l.length * 24 ≤ 140737488351232) (hr : Arcs w (some ad) l) :
    Calls Try.prog 10 #[.agg #[.int .i64 N, .slice (some ad) l.length cap]] w fun e w' => Lent w w' e N l := by
  obtain ⟨i0, hi, hz0, hz1, hz2⟩ := info_parts info53
  have hb0 : Below w.heap.size w ((w.alloc (.cells #[.int .i64 N, .slice (some ad) l.length cap] 24)).alloc (.cells #[.int .i64 0, .slice none 0 0] 24)) := ((Below.refl _ _).alloc (Nat.le_refl _) _).alloc (by simp) _
  have hg : ((w.alloc (.cells #[.int .i64 N, .slice (some ad) l.length cap] 24)).alloc (.cells #[.int .i64 0, .slice none 0 0] 24)).heap[w.heap.size]? = some (.cells #[.int .i64 N, .slice (some ad) l.length cap] 24) := (Below.heap_alloc _ _ _ (by simp)).trans (heap_top w _)
  have h1 := heap_top (w.alloc (.cells #[.int .i64 N, .slice (some ad) l.length cap] 24)) (.cells #[.int .i64 0, .slice none 0 0] 24)
  rw [show (w.alloc (.cells #[.int .i64 N, .slice (some ad) l.length cap] 24)).heap.size = w.heap.size + 1 by simp] at h1
  generalize hW : (w.alloc (.cells #[.int .i64 N, .slice (some ad) l.length cap] 24)).alloc (.cells #[.int .i64 0, .slice none 0 0] 24) = W at *
  obtain ⟨⟨g0, g1⟩, gf0, gf1⟩ := two_cells hg
  have HN := Lib.hid (clone_news (hr.on hb0) (.cells #[] 51))
  have HL := Lib.hid (cellsA_len l)
  have HA : Hid (cellsA l ++ cellsA [A.mark] = cellsA (l ++ [A.mark])) := (cellsA_append l [A.mark]).symm
  have hown0 := World.ownsRow_lit (base := W.heap.size) (e := 51) (size := 3) W #[] 0 (Nat.le_refl _) (by decide) rfl
  have s0 := lt_of_block hg
  have s1 := lt_of_block h1
  go_enter Try.func10, Try.ntmps10
  go_wp2_with (first
    | (at_builtin; refine wpList_append_own _ rfl (.tmp 4) (.tmp 6) 22 rfl W.heap.size 51 i0 _ 3 24 Try.underlying22 hi hz0 hz1 hz2 rfl (by decide) (.slice (some ⟨W.heap.size, 0, none⟩) 0 0) 0 [] rfl hown0 ad l.length cap (cellsA l) rfl HL.out HN.out (cellsA_one l) (by unfold maxLen; omega) (by omega) (by simp) ?_; intro v1 w1 hown1 hgrow1 hnil1; obtain ⟨g1', c1, hv1, hg1, hc1, hs1, hm1⟩ := own_shape hown1 (fun e => by have := hnil1.1 e; simp at this); rw [hv1] at hown1 ⊢; clear hnil1 hv1; simp only [Nat.zero_add, List.nil_append] at hown1 hc1 ⊢)
    | (at_builtin; refine wpList_append_own _ rfl (.tmp 8) (.tmp 10) 22 rfl W.heap.size 51 i0 _ 3 24 Try.underlying22 hi hz0 hz1 hz2 rfl (by decide) (.slice (some ⟨g1', 0, none⟩) l.length c1) l.length (cellsA l) rfl (hown1.alloc _) ⟨w1.heap.size, 0, none⟩ 1 1 (cellsA [A.mark]) rfl rfl (mark_news w1) (cellsA_one _) (by unfold maxLen; omega) (by omega) (by simp; omega) ?_; intro v2 w2 hown2 hgrow2 hnil2; obtain ⟨g2, c2, hv2, hg2, hc2, hs2, hm2⟩ := own_shape hown2 (fun e => by have := hnil2.1 e; simp at this); rw [hv2] at hown2 ⊢; clear hnil2 hv2))
  have b1 : Below W.heap.size W w1 := ((Below.refl W.heap.size W).alloc (Nat.le_refl _) _).grown hgrow1 (by simp) (by intro k hk; cases hk; exact Nat.le_refl _)
  have b2 : Below W.heap.size W w2 := (b1.alloc b1.size _).grown hgrow2 (by have := b1.size; simp; omega) (by intro k hk; cases hk; exact hg1)
  have hg2' := (b2.block _ s0).trans hg
  have hh2' := (b2.block _ s1).trans h1
  have bw := bthen hb0 b2 hb0.size
  rw [HA.out] at hown2
  clear hown1 hgrow1 hgrow2 g0 g1 gf0 gf1 hown0 HN hW b1 b2
  obtain ⟨⟨g0, g1⟩, gf0, gf1⟩ := two_cells hg2'
  obtain ⟨⟨r0, r1⟩, rf0, rf1⟩ := two_cells hh2'
  have k1 : (l.length : Int) ≤ (c2 : Int) := by omega
  have k2 : (0 : Int) ≤ (l.length : Int) := by omega
  have HO := Lib.hid hown2
  clear hown2
  go_region
  go_wp2_with fail
  refine bodyPost_ret (v := .agg #[.int .i64 N, .slice (some ⟨g2, 0, none⟩) l.length c2]) (by simp [results, Try.results10, go_sem, r0, r1]) rfl ⟨g2, c2, rfl, by omega, hm2, ?_, ((bw.setCell (by show _ ≤ w.heap.size + 1; omega) _).setCell (by show _ ≤ w.heap.size + 1; omega) _).drew⟩
  exact own_base (ownsRow_setCell_below (ownsRow_setCell_below HO.out (show w.heap.size + 1 < W.heap.size by omega) _) (show w.heap.size + 1 < W.heap.size by omega) _) (by omega)
set_option maxHeartbeats 1600000 in
theorem lend_none (N : Int) (w : World) :
    Calls Try.prog 10 #[.agg #[.int .i64 N, .slice none 0 0]] w fun e w' => Lent w w' e N [] := by
  obtain ⟨i0, hi, hz0, hz1, hz2⟩ := info_parts info53
  have hb0 : Below w.heap.size w ((w.alloc (.cells #[.int .i64 N, .slice none 0 0] 24)).alloc (.cells #[.int .i64 0, .slice none 0 0] 24)) := ((Below.refl _ _).alloc (Nat.le_refl _) _).alloc (by simp) _
  have hg : ((w.alloc (.cells #[.int .i64 N, .slice none 0 0] 24)).alloc (.cells #[.int .i64 0, .slice none 0 0] 24)).heap[w.heap.size]? = some (.cells #[.int .i64 N, .slice none 0 0] 24) := (Below.heap_alloc _ _ _ (by simp)).trans (heap_top w _)
  have h1 := heap_top (w.alloc (.cells #[.int .i64 N, .slice none 0 0] 24)) (.cells #[.int .i64 0, .slice none 0 0] 24)
  rw [show (w.alloc (.cells #[.int .i64 N, .slice none 0 0] 24)).heap.size = w.heap.size + 1 by simp] at h1
  generalize hW : (w.alloc (.cells #[.int .i64 N, .slice none 0 0] 24)).alloc (.cells #[.int .i64 0, .slice none 0 0] 24) = W at *
  obtain ⟨⟨g0, g1⟩, gf0, gf1⟩ := two_cells hg
  have hown0 := World.ownsRow_lit (base := W.heap.size) (e := 51) (size := 3) W #[] 0 (Nat.le_refl _) (by decide) rfl
  have s0 := lt_of_block hg
  have s1 := lt_of_block h1
  have HM : Hid ([] ++ cellsA [A.mark] = cellsA ([] ++ [A.mark])) := rfl
  have hmk := mark_news (W.alloc (.cells #[] 51))
  rw [show (W.alloc (.cells #[] 51)).heap.size = W.heap.size + 1 by simp] at hmk
  have HMK := Lib.hid hmk
  clear hmk
  go_enter Try.func10, Try.ntmps10
  go_wp2_with (first
    | (at_builtin; refine wpList_append_own_none rfl (.tmp 4) (.tmp 6) 22 rfl W.heap.size 51 i0 3 Try.underlying22 hi (.slice (some ⟨W.heap.size, 0, none⟩) 0 0) 0 [] rfl hown0 rfl ?_)
    | (at_builtin; refine wpList_append_own _ rfl (.tmp 8) (.tmp 10) 22 rfl W.heap.size 51 i0 _ 3 24 Try.underlying22 hi hz0 hz1 hz2 rfl (by decide) (.slice (some ⟨W.heap.size, 0, none⟩) 0 0) 0 [] rfl (hown0.alloc _) ⟨W.heap.size + 1, 0, none⟩ 1 1 (cellsA [A.mark]) rfl rfl HMK.out (cellsA_one _) (by decide) (by decide) (by simp; omega) ?_; intro v2 w2 hown2 hgrow2 hnil2; obtain ⟨g2, c2, hv2, hg2, hc2, hs2, hm2⟩ := own_shape hown2 (fun e => by have := hnil2.1 e; simp at this); rw [hv2] at hown2 ⊢; clear hnil2 hv2; simp only [Nat.zero_add] at hown2 hc2 ⊢))
  have b2 : Below W.heap.size W w2 := (((Below.refl W.heap.size W).alloc (Nat.le_refl _) _).alloc (by simp) _).grown hgrow2 (by simp; omega) (by intro k hk; cases hk; exact Nat.le_refl _)
  have hg2' := (b2.block _ s0).trans hg
  have hh2' := (b2.block _ s1).trans h1
  have bw := bthen hb0 b2 hb0.size
  clear hgrow2 g0 g1 gf0 gf1 hown0 hW b2 HMK
  obtain ⟨⟨g0, g1⟩, gf0, gf1⟩ := two_cells hg2'
  obtain ⟨⟨r0, r1⟩, rf0, rf1⟩ := two_cells hh2'
  have k1 : (0 : Int) ≤ (c2 : Int) := by omega
  have HO := Lib.hid hown2
  clear hown2
  go_region
  go_wp2_with fail
  refine bodyPost_ret (v := .agg #[.int .i64 N, .slice (some ⟨g2, 0, none⟩) 0 c2]) (by simp [results, Try.results10, go_sem, r0, r1]) rfl ⟨g2, c2, rfl, by show 0 < c2; omega, hm2, ?_, ((bw.setCell (by show _ ≤ w.heap.size + 1; omega) _).setCell (by show _ ≤ w.heap.size + 1; omega) _).drew⟩
  exact own_base (ownsRow_setCell_below (ownsRow_setCell_below HO.out (show w.heap.size + 1 < W.heap.size by omega) _) (show w.heap.size + 1 < W.heap.size by omega) _) (by omega)
theorem lend_any (N : Int) (a : Option Addr) (l : List A) (cap : Nat) (w : World) (hlen : l.length * 24 ≤ 140737488351232) (hn : a = none → l = [] ∧ cap = 0) (hr : Arcs w a l) :
    Calls Try.prog 10 #[.agg #[.int .i64 N, .slice a l.length cap]] w fun e w' => Lent w w' e N l := by
  match a, hn, hr with
  | none, hn, _ =>
    obtain ⟨e1, e2⟩ := hn rfl
    subst e1 e2
    exact lend_none N w
  | some ad, _, hr => exact lend_some N ad l cap w hlen hr
end Go.Proofs.Ytgpaoiddjlpcmaa
namespace Go.Proofs.Ytgpaoiddjlpcmaa
open Go.RowKit
theorem getD_append_mark (l : List A) : (l ++ [A.mark]).getD l.length A.zero = A.mark := by simp [List.getD]
theorem getD_append_lt (l : List A) (j : Nat) (h : j < l.length) : (l ++ [A.mark]).getD j A.zero = l.getD j A.zero := by simp [List.getD, List.getElem?_append_left h]
/-- A graph that is lent still lies as it was, with its mark. -/
def Still (w : World) (g : Nat) (l : List A) : Prop := ∀ j, j < l.length + 1 → ((l ++ [A.mark]).getD j A.zero).at w g (j * 3)
theorem still_own {w : World} {B g c : Nat} {l : List A} (h : w.ownsRow B 51 3 (.slice (some ⟨g, 0, none⟩) (l.length + 1) c) (l.length + 1) (cellsA (l ++ [A.mark]))) : Still w g l := by
  intro j hj
  obtain ⟨h1, h2, h3⟩ := cellsA_at (l ++ [A.mark]) j (by simpa using hj)
  exact ⟨(World.ownsRow.cellAt h (j * 3) (by omega)).trans h1, (World.ownsRow.cellAt h (j * 3 + 1) (by omega)).trans h2, (World.ownsRow.cellAt h (j * 3 + 2) (by omega)).trans h3⟩
theorem Still.lt {w : World} {g : Nat} {l : List A} (h : Still w g l) : g < w.heap.size := World.block_lt_of_cell? w _ (h 0 (by omega)).1
theorem Still.on {w w' : World} {g : Nat} {l : List A} (h : Still w g l) (hb : Below w.heap.size w w') : Still w' g l := fun j hj => (h j hj).on hb
theorem Still.arcs {w : World} {g : Nat} {l : List A} (h : Still w g l) : Arcs w (some ⟨g, 0, none⟩) l :=
  Or.inr ⟨g, 0, rfl, h.lt, fun j hj => by rw [Nat.zero_add, ← getD_append_lt l j hj]; exact h j (by omega)⟩
set_option maxHeartbeats 1600000 in
theorem kept_any (N : Int) (g c : Nat) (a : Option Addr) (l : List A) (cap : Nat) (w : World) (hlen : l.length * 24 ≤ 140737488351232) (hc : l.length < c) (hcm : c ≤ 9223372036854775807) (hs : Still w g l) (hr : Arcs w a l) :
    Calls Try.prog 16 #[.agg #[.int .i64 N, .slice (some ⟨g, 0, none⟩) l.length c], .agg #[.int .i64 N, .slice a l.length cap]] w fun e w' => e = .returned (.bool true) ∧ Below w.heap.size w w' := by
  have hl : l.length ≤ 9223372036854775807 := by omega
  have hb0 : Below w.heap.size w ((w.alloc (.cells #[.int .i64 N, .slice (some ⟨g, 0, none⟩) l.length c] 24)).alloc (.cells #[.int .i64 N, .slice a l.length cap] 24)) := ((Below.refl _ _).alloc (Nat.le_refl _) _).alloc (by simp) _
  have hg : ((w.alloc (.cells #[.int .i64 N, .slice (some ⟨g, 0, none⟩) l.length c] 24)).alloc (.cells #[.int .i64 N, .slice a l.length cap] 24)).heap[w.heap.size]? = some (.cells #[.int .i64 N, .slice (some ⟨g, 0, none⟩) l.length c] 24) := (Below.heap_alloc _ _ _ (by simp)).trans (heap_top w _)
  have h1 := heap_top (w.alloc (.cells #[.int .i64 N, .slice (some ⟨g, 0, none⟩) l.length c] 24)) (.cells #[.int .i64 N, .slice a l.length cap] 24)
  rw [show (w.alloc (.cells #[.int .i64 N, .slice (some ⟨g, 0, none⟩) l.length c] 24)).heap.size = w.heap.size + 1 by simp] at h1
  generalize hW : (w.alloc (.cells #[.int .i64 N, .slice (some ⟨g, 0, none⟩) l.length c] 24)).alloc (.cells #[.int .i64 N, .slice a l.length cap] 24) = W at *
  have hsW := hs.on hb0
  have hrW := hr.on hb0
  obtain ⟨⟨g0, g1⟩, _, _⟩ := two_cells hg
  obtain ⟨⟨k0, k1⟩, _, _⟩ := two_cells h1
  have m0 := (hsW l.length (by omega)).1
  rw [getD_append_mark] at m0
  have m0' : W.cell? ⟨g, l.length * 3, none⟩ = some (.int .i64 (-77)) := m0
  have hgl := hsW.lt
  have i1 : (l.length : Int) + 1 ≤ (c : Int) := by omega
  have i2 : l.length + 1 ≤ c := by omega
  have i3 : (0 : Int) ≤ (l.length : Int) + 1 := by omega
  have i4 : IntKind.i64.wrap ((l.length : Int) + 1) = (l.length : Int) + 1 := by rw [IntKind.wrap_i64]; omega
  have i5 : (l.length : Int) < (l.length : Int) + 1 := by omega
  have i6 : ((l.length : Int) + 1).toNat = l.length + 1 := by omega
  have HS := Lib.hid (sameGraph_any N (some ⟨g, 0, none⟩) a c cap l W.drew hl (show Arcs W.drew _ l from hsW.arcs.on (below_drewN _ W 1)) (show Arcs W.drew a l from hrW.on (below_drewN _ W 1)))
  have HG := Lib.hid hg
  have HH := Lib.hid h1
  have HM := Lib.hid m0'
  clear hg h1 hs hr hsW hrW m0
  go_enter Try.func16, Try.ntmps16
  go_wp2_with fail
  go_region_held3 (fun w' => w'.cell? ⟨w.heap.size, 0, none⟩ = some (.int .i64 N) ∧ w'.cell? ⟨w.heap.size, 1, none⟩ = some (.slice (some ⟨g, 0, none⟩) l.length c) ∧ w'.cell? ⟨w.heap.size + 1, 0, none⟩ = some (.int .i64 N) ∧ w'.cell? ⟨w.heap.size + 1, 1, none⟩ = some (.slice a l.length cap) ∧ w'.cell? ⟨g, l.length * 3, none⟩ = some (.int .i64 (-77))) (go_keep) ((go_at_call 34; refine HS.out.mono ?_; rintro e w5 ⟨rfl, hb5⟩; obtain ⟨⟨p0, p1⟩, _, _⟩ := two_cells ((hb5.block _ (lt_of_block HG.out)).trans HG.out); obtain ⟨⟨q0, q1⟩, _, _⟩ := two_cells ((hb5.block _ (lt_of_block HH.out)).trans HH.out); have q2 := (hb5.cell (p := ⟨g, l.length * 3, none⟩) hgl).trans HM.out))
  go_wp2_with fail
  go_ret
  exact ⟨rfl, hb0.trans ((below_drewN _ W 1).trans (hb5.mono (by have := hb0.size; show w.heap.size ≤ W.heap.size; omega)))⟩
theorem own_wide {w : World} {B : Nat} {e : TypeId} {size g n c : Nat} {xs : List Value} (h : w.ownsRow B e size (.slice (some ⟨g, 0, none⟩) n c) n xs) : ∃ ys, w.ownsRow B e size (.slice (some ⟨g, 0, none⟩) c c) c ys := by
  rcases h.2 with ⟨h', _⟩ | ⟨g', c', cur, h', hb, hg, hnc, hm, hcs, _⟩
  · cases h'
  · injection h' with e1 e2 e3
    injection e1 with e1
    injection e1 with e1
    subst e1 e3
    refine ⟨cur.toList.take (c * size), ?_, Or.inr ⟨g, c, cur, rfl, hb, hg, Nat.le_refl _, hm, hcs, rfl⟩⟩
    rw [List.length_take, Array.length_toList, hcs]; omega
set_option maxHeartbeats 400000 in
theorem spoilInts_none (x : Int) (w : World) : Calls Try.prog 21 #[.slice none 0 0, .int .i64 x] w fun e w' => e = .returned (.tuple #[]) ∧ w' = w := by
  go_enter Try.func21, Try.ntmps21
  go_wp2_with fail
  refine wp_loop_rounds 1 ?_
  rw [rounds_succ]
  go_wp2_with fail
  go_end0
  exact ⟨rfl, rfl⟩
set_option maxHeartbeats 400000 in
theorem spoilInts_some (g n m B : Nat) (x : Int) (xs : List Value) (w : World) (hn : n ≤ 9223372036854775807) (hown : w.ownsRow B 3 1 (.slice (some ⟨g, 0, none⟩) n n) n xs) :
    Calls Try.prog 21 #[.slice (some ⟨g, 0, none⟩) m n, .int .i64 x] w fun e w' => e = .returned (.tuple #[]) ∧ Below B w w' := by
  have hgB : B ≤ g := (hown.lt g rfl).1
  go_enter Try.func21, Try.ntmps21
  go_wp2_with fail
  go_loopw [4] (fun i wr => ∃ (k : Nat) (xs : List Value), k ≤ n ∧ i = .int .i64 k ∧ wr.ownsRow B 3 1 (.slice (some ⟨g, 0, none⟩) n n) n xs ∧ Below B w wr) (fun i _ => n - (intOf i).toNat)
  case atStart => exact ⟨0, xs, Nat.zero_le _, rfl, hown, Below.refl _ _⟩
  case round =>
    obtain ⟨k, ys, hk, rfl, ho, hbel⟩ := hrel
    by_cases hlt : k < n
    · have hyl : k < ys.length := by have := ho.1; omega
      have c2 : wr.cell? ⟨g, k, none⟩ = some ys[k] := (ho.cellAt k (by omega)).trans (List.getElem?_eq_getElem hyl)
      have f2 : wr.frozen? ⟨g, k, none⟩ = false := ho.frozenAt k
      generalize ys[k] = y at c2
      have HS := Lib.hid (ho.stored k (.int .i64 x))
      go_wp2_with fail
      exact ⟨⟨k + 1, _, by omega, by go_num, HS.out.1, hbel.setCell hgB _⟩, by simp [intOf]; omega⟩
    · go_wp2_with fail
      go_end0
      exact ⟨rfl, hbel⟩
theorem spoilInts_any (a : Option Addr) (c B : Nat) (x : Int) (xs : List Int) (w : World) (hown : w.ownsRow B 3 1 (.slice a xs.length c) xs.length (cellsI xs)) :
    Calls Try.prog 21 #[.slice a xs.length c, .int .i64 x] w fun e w' => e = .returned (.tuple #[]) ∧ Below B w w' := by
  rcases hown.2 with ⟨h', h0⟩ | ⟨g, c', cur, h', hb, hg, hnc, hm, _⟩
  · injection h' with e1 e2 e3
    subst e1 e3
    rw [h0]
    refine (spoilInts_none x w).mono ?_
    rintro e w' ⟨rfl, rfl⟩
    exact ⟨rfl, Below.refl _ _⟩
  · injection h' with e1 e2 e3
    subst e1 e3
    obtain ⟨ys, hy⟩ := own_wide hown
    exact spoilInts_some g c xs.length B x ys w (by unfold maxLen at hm; omega) hy
end Go.Proofs.Ytgpaoiddjlpcmaa
namespace Go.Proofs.Ytgpaoiddjlpcmaa
open Go.RowKit
/-- Numbers that are lent. -/
def LentI (w w' : World) (e : Ending) (xs : List Int) : Prop :=
  ∃ g c, e = .returned (.slice (some ⟨g, 0, none⟩) xs.length c) ∧ xs.length < c ∧ c ≤ 9223372036854775807 ∧ w'.ownsRow w.heap.size 3 1 (.slice (some ⟨g, 0, none⟩) (xs.length + 1) c) (xs.length + 1) (cellsI (xs ++ [-77])) ∧ Below w.heap.size w w'
theorem one_i (xs : List Int) : ∀ u ∈ cellsI xs, u.oneCell' = true := by
  intro u hu
  unfold cellsI at hu
  obtain ⟨x, _, rfl⟩ := List.mem_map.1 hu
  rfl
theorem ints_news {w : World} {ad : Addr} {xs : List Int} (h : Ints w (some ad) xs) (o : Obj) : ∀ j u, (cellsI xs)[j]? = some u → (w.alloc o).cell? (ad.add j) = some u := by
  intro j u hu
  rcases h with rfl | ⟨b, o', hab, hl, hc⟩
  · simp [cellsI] at hu
  · cases hab
    have hj : j < xs.length := by
      rcases Nat.lt_or_ge j xs.length with h' | h'
      · exact h'
      · rw [List.getElem?_eq_none (by rw [cellsI_len]; exact h')] at hu; cases hu
    rw [cellsI_getD xs j hj] at hu
    rw [Go.WideShapes.add_plain]
    exact ((((Below.refl w.heap.size w).alloc (Nat.le_refl _) o).cell (p := ⟨b, o' + j, none⟩) hl).trans (hc j hj)).trans hu
theorem mark_i (w : World) : ∀ j u, (cellsI [-77])[j]? = some u → (w.alloc (.cells #[.int .i64 (-77)] 3)).cell? ((⟨w.heap.size, 0, none⟩ : Addr).add j) = some u := one_new w (-77)
theorem cellsI_append (a b : List Int) : cellsI (a ++ b) = cellsI a ++ cellsI b := by simp [cellsI]
set_option maxHeartbeats 1600000 in
theorem lendI_some (ad : Addr) (xs : List Int) (cap : Nat) (w : World) (hlen : xs.length * 8 ≤ 140737488351232) (hr : Ints w (some ad) xs) :
    Calls Try.prog 11 #[.slice (some ad) xs.length cap] w fun e w' => LentI w w' e xs := by
  obtain ⟨i0, hi, hz0, hz1, hz2⟩ := info_parts info3
  have HN := Lib.hid (ints_news hr (.cells #[] 3))
  have HL := Lib.hid (cellsI_len xs)
  have HA : Hid (cellsI xs ++ cellsI [-77] = cellsI (xs ++ [-77])) := (cellsI_append xs [-77]).symm
  have hown0 := World.ownsRow_lit (base := w.heap.size) (e := 3) (size := 1) w #[] 0 (Nat.le_refl _) (by decide) rfl
  go_enter Try.func11, Try.ntmps11
  go_wp2_with (first
    | (at_builtin; refine wpList_append_own _ rfl (.tmp 4) (.tmp 5) 25 rfl w.heap.size 3 i0 _ 1 8 Try.underlying25 hi hz0 hz1 hz2 rfl (by decide) (.slice (some ⟨w.heap.size, 0, none⟩) 0 0) 0 [] rfl hown0 ad xs.length cap (cellsI xs) rfl (by rw [HL.out]; omega) HN.out (one_i xs) (by unfold maxLen; omega) (by omega) (by simp) ?_; intro v1 w1 hown1 hgrow1 hnil1; obtain ⟨g1', c1, hv1, hg1, hc1, hs1, hm1⟩ := own_shape hown1 (fun e => by have := hnil1.1 e; simp at this); rw [hv1] at hown1 ⊢; clear hnil1 hv1; simp only [Nat.zero_add, List.nil_append] at hown1 hc1 ⊢)
    | (at_builtin; refine wpList_append_own _ rfl (.tmp 7) (.tmp 8) 25 rfl w.heap.size 3 i0 _ 1 8 Try.underlying25 hi hz0 hz1 hz2 rfl (by decide) (.slice (some ⟨g1', 0, none⟩) xs.length c1) xs.length (cellsI xs) rfl (hown1.alloc _) ⟨w1.heap.size, 0, none⟩ 1 1 (cellsI [-77]) rfl rfl (mark_i w1) (one_i _) (by unfold maxLen; omega) (by omega) (by simp; omega) ?_; intro v2 w2 hown2 hgrow2 hnil2; obtain ⟨g2, c2, hv2, hg2, hc2, hs2, hm2⟩ := own_shape hown2 (fun e => by have := hnil2.1 e; simp at this); rw [hv2] at hown2 ⊢; clear hnil2 hv2))
  have b1 : Below w.heap.size w w1 := ((Below.refl w.heap.size w).alloc (Nat.le_refl _) _).grown hgrow1 (by simp) (by intro k hk; cases hk; exact Nat.le_refl _)
  have b2 : Below w.heap.size w w2 := (b1.alloc b1.size _).grown hgrow2 (by have := b1.size; simp; omega) (by intro k hk; cases hk; exact hg1)
  rw [HA.out] at hown2
  have k1 : (xs.length : Int) ≤ (c2 : Int) := by omega
  have k2 : (0 : Int) ≤ (xs.length : Int) := by omega
  have HO := Lib.hid hown2
  clear hown1 hgrow1 hgrow2 hown0 HN hown2
  go_wp2_with fail
  go_ret
  exact ⟨g2, c2, rfl, by omega, hm2, HO.out, b2⟩
set_option maxHeartbeats 1600000 in
theorem lendI_none (w : World) :
    Calls Try.prog 11 #[.slice none 0 0] w fun e w' => LentI w w' e [] := by
  obtain ⟨i0, hi, hz0, hz1, hz2⟩ := info_parts info3
  have hown0 := World.ownsRow_lit (base := w.heap.size) (e := 3) (size := 1) w #[] 0 (Nat.le_refl _) (by decide) rfl
  have hmk := mark_i (w.alloc (.cells #[] 3))
  rw [show (w.alloc (.cells #[] 3)).heap.size = w.heap.size + 1 by simp] at hmk
  have HMK := Lib.hid hmk
  clear hmk
  go_enter Try.func11, Try.ntmps11
  go_wp2_with (first
    | (at_builtin; refine wpList_append_own_none rfl (.tmp 4) (.tmp 5) 25 rfl w.heap.size 3 i0 1 Try.underlying25 hi (.slice (some ⟨w.heap.size, 0, none⟩) 0 0) 0 [] rfl hown0 rfl ?_)
    | (at_builtin; refine wpList_append_own _ rfl (.tmp 7) (.tmp 8) 25 rfl w.heap.size 3 i0 _ 1 8 Try.underlying25 hi hz0 hz1 hz2 rfl (by decide) (.slice (some ⟨w.heap.size, 0, none⟩) 0 0) 0 [] rfl (hown0.alloc _) ⟨w.heap.size + 1, 0, none⟩ 1 1 (cellsI [-77]) rfl rfl HMK.out (one_i _) (by decide) (by decide) (by simp; omega) ?_; intro v2 w2 hown2 hgrow2 hnil2; obtain ⟨g2, c2, hv2, hg2, hc2, hs2, hm2⟩ := own_shape hown2 (fun e => by have := hnil2.1 e; simp at this); rw [hv2] at hown2 ⊢; clear hnil2 hv2; simp only [Nat.zero_add] at hown2 hc2 ⊢))
  have b2 : Below w.heap.size w w2 := (((Below.refl w.heap.size w).alloc (Nat.le_refl _) _).alloc (by simp) _).grown hgrow2 (by simp; omega) (by intro k hk; cases hk; exact Nat.le_refl _)
  have k1 : (0 : Int) ≤ (c2 : Int) := by omega
  have HO := Lib.hid hown2
  clear hgrow2 hown0 HMK hown2
  go_wp2_with fail
  go_ret
  exact ⟨g2, c2, rfl, by show 0 < c2; omega, hm2, HO.out, b2⟩
theorem lendI_any (a : Option Addr) (xs : List Int) (cap : Nat) (w : World) (hlen : xs.length * 8 ≤ 140737488351232) (hn : a = none → xs = [] ∧ cap = 0) (hr : Ints w a xs) :
    Calls Try.prog 11 #[.slice a xs.length cap] w fun e w' => LentI w w' e xs := by
  match a, hn, hr with
  | none, hn, _ =>
    obtain ⟨e1, e2⟩ := hn rfl
    subst e1 e2
    exact lendI_none w
  | some ad, _, hr => exact lendI_some ad xs cap w hlen hr
/-- They stand still. -/
def StillI (w : World) (g : Nat) (xs : List Int) : Prop := g < w.heap.size ∧ ∀ j, j < xs.length + 1 → w.cell? ⟨g, j, none⟩ = some (.int .i64 ((xs ++ [-77]).getD j 0))
theorem stillI_own {w : World} {B g c : Nat} {xs : List Int} (h : w.ownsRow B 3 1 (.slice (some ⟨g, 0, none⟩) (xs.length + 1) c) (xs.length + 1) (cellsI (xs ++ [-77]))) : StillI w g xs := by
  refine ⟨(h.lt g rfl).2, fun j hj => ?_⟩
  rw [World.ownsRow.cellAt h j (by omega), cellsI_getD _ j (by simp; omega)]
theorem StillI.on {w w' : World} {g : Nat} {xs : List Int} (h : StillI w g xs) (hb : Below w.heap.size w w') : StillI w' g xs := ⟨Nat.lt_of_lt_of_le h.1 hb.size, fun j hj => (hb.cell (p := ⟨g, j, none⟩) h.1).trans (h.2 j hj)⟩
theorem StillI.ints {w : World} {g : Nat} {xs : List Int} (h : StillI w g xs) : Ints w (some ⟨g, 0, none⟩) xs := by
  refine Or.inr ⟨g, 0, rfl, h.1, fun j hj => ?_⟩
  rw [Nat.zero_add, h.2 j (by omega)]
  simp [List.getD, List.getElem?_append_left hj]
theorem StillI.mark {w : World} {g : Nat} {xs : List Int} (h : StillI w g xs) : w.cell? ⟨g, xs.length, none⟩ = some (.int .i64 (-77)) := by
  rw [h.2 _ (by omega)]
  simp [List.getD]
set_option maxHeartbeats 800000 in
theorem keptI_any (g c : Nat) (a : Option Addr) (xs : List Int) (cap : Nat) (w : World) (hlen : xs.length * 8 ≤ 140737488351232) (hc : xs.length < c) (hs : StillI w g xs) (hr : Ints w a xs) :
    Calls Try.prog 17 #[.slice (some ⟨g, 0, none⟩) xs.length c, .slice a xs.length cap] w fun e w' => e = .returned (.bool true) ∧ Below w.heap.size w w' := by
  have HS := Lib.hid (sameInts_any (some ⟨g, 0, none⟩) a c cap xs w (by omega) hs.ints hr)
  have HST := Lib.hid hs
  have i1 : (xs.length : Int) + 1 ≤ (c : Int) := by omega
  have i2 : xs.length + 1 ≤ c := by omega
  have i3 : (0 : Int) ≤ (xs.length : Int) + 1 := by omega
  have i4 : IntKind.i64.wrap ((xs.length : Int) + 1) = (xs.length : Int) + 1 := by rw [IntKind.wrap_i64]; omega
  have i5 : (xs.length : Int) < (xs.length : Int) + 1 := by omega
  have i6 : ((xs.length : Int) + 1).toNat = xs.length + 1 := by omega
  clear hs hr
  go_enter Try.func17, Try.ntmps17
  go_wp2_with fail
  refine HS.out.mono ?_
  rintro e w1 ⟨rfl, hb1⟩
  have m0 := (HST.out.on hb1).mark
  go_wp2_with fail
  go_ret
  exact ⟨rfl, hb1⟩
end Go.Proofs.Ytgpaoiddjlpcmaa
