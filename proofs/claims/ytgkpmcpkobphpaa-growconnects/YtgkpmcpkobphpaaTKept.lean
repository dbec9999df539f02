/-
  Contract of the book's KeptGraph, at a graph that was kept: true.
-/
import Derived.Test.YtgkpmcpkobphpaaTLend
import Derived.Deep.RegionHeld3
namespace Go.Proofs.Ytgkpmcpkobphpaa.T3
open Go.RowKit
theorem getD_append_mark (l : List A) : (l ++ [A.mark]).getD l.length A.zero = A.mark := by simp [List.getD]
theorem getD_append_lt (l : List A) (j : Nat) (h : j < l.length) : (l ++ [A.mark]).getD j A.zero = l.getD j A.zero := by simp [List.getD, List.getElem?_append_left h]
/-- A graph that is lent still lies as it was, with its mark. -/
def Still (w : World) (g : Nat) (l : List A) : Prop := ∀ j, j < l.length + 1 → ((l ++ [A.mark]).getD j A.zero).at w g (j * 3)
theorem still_own {w : World} {B g c : Nat} {l : List A} (h : w.ownsRow B 42 3 (.slice (some ⟨g, 0, none⟩) (l.length + 1) c) (l.length + 1) (cellsA (l ++ [A.mark]))) : Still w g l := by
  intro j hj
  obtain ⟨h1, h2, h3⟩ := cellsA_at (l ++ [A.mark]) j (by simpa using hj)
  exact ⟨(World.ownsRow.cellAt h (j * 3) (by omega)).trans h1, (World.ownsRow.cellAt h (j * 3 + 1) (by omega)).trans h2, (World.ownsRow.cellAt h (j * 3 + 2) (by omega)).trans h3⟩
theorem Still.lt {w : World} {g : Nat} {l : List A} (h : Still w g l) : g < w.heap.size := World.block_lt_of_cell? w _ (h 0 (by omega)).1
theorem Still.on {w w' : World} {g : Nat} {l : List A} (h : Still w g l) (hb : Below w.heap.size w w') : Still w' g l := fun j hj => (h j hj).on hb
theorem Still.arcs {w : World} {g : Nat} {l : List A} (h : Still w g l) : Arcs w (some ⟨g, 0, none⟩) l :=
  Or.inr ⟨g, 0, rfl, h.lt, fun j hj => by rw [Nat.zero_add, ← getD_append_lt l j hj]; exact h j (by omega)⟩
set_option maxRecDepth 100000 in
set_option maxHeartbeats 1600000 in
theorem kept_any (N : Int) (g c : Nat) (a : Option Addr) (l : List A) (cap : Nat) (w : World) (hlen : l.length * 24 ≤ 140737488351232) (hc : l.length < c) (hcm : c ≤ 9223372036854775807) (hs : Still w g l) (hr : Arcs w a l) :
    Calls Try.prog 17 #[.agg #[.int .i64 N, .slice (some ⟨g, 0, none⟩) l.length c], .agg #[.int .i64 N, .slice a l.length cap]] w fun e w' => e = .returned (.bool true) ∧ Below w.heap.size w w' := by
  have hl : l.length ≤ 9223372036854775807 := by omega
  have hb0 : Below w.heap.size w ((w.alloc (.cells #[.int .i64 N, .slice (some ⟨g, 0, none⟩) l.length c] 24)).alloc (.cells #[.int .i64 N, .slice a l.length cap] 24)) := ((Below.refl _ _).alloc (Nat.le_refl _) _).alloc (by simp) _
  have hg : ((w.alloc (.cells #[.int .i64 N, .slice (some ⟨g, 0, none⟩) l.length c] 24)).alloc (.cells #[.int .i64 N, .slice a l.length cap] 24)).heap[w.heap.size]? = some (.cells #[.int .i64 N, .slice (some ⟨g, 0, none⟩) l.length c] 24) := (Below.heap_alloc _ _ _ (by simp)).trans (heap_top w _)
  have h1 := heap_top (w.alloc (.cells #[.int .i64 N, .slice (some ⟨g, 0, none⟩) l.length c] 24)) (.cells #[.int .i64 N, .slice a l.length cap] 24)
  rw [show (w.alloc (.cells #[.int .i64 N, .slice (some ⟨g, 0, none⟩) l.length c] 24)).heap.size = w.heap.size + 1 by simp] at h1
  generalize hW : (w.alloc (.cells #[.int .i64 N, .slice (some ⟨g, 0, none⟩) l.length c] 24)).alloc (.cells #[.int .i64 N, .slice a l.length cap] 24) = W at *
  have hsW := hs.on hb0
  have hrW := hr.on hb0
  obtain ⟨⟨g0, g1⟩, _, _⟩ := two_cells hg
  obtain ⟨⟨k0, k1⟩, _, _⟩ := two_cells h1
  have m0 := (hsW l.length (by omega)).1
  rw [getD_append_mark] at m0
  have m0' : W.cell? ⟨g, l.length * 3, none⟩ = some (.int .i64 (-77)) := m0
  have hgl := hsW.lt
  have i1 : (l.length : Int) + 1 ≤ (c : Int) := by omega
  have i2 : l.length + 1 ≤ c := by omega
  have i3 : (0 : Int) ≤ (l.length : Int) + 1 := by omega
  have i4 : IntKind.i64.wrap ((l.length : Int) + 1) = (l.length : Int) + 1 := by rw [IntKind.wrap_i64]; omega
  have i5 : (l.length : Int) < (l.length : Int) + 1 := by omega
  have i6 : ((l.length : Int) + 1).toNat = l.length + 1 := by omega
  have HS := Lib.hid (sameGraph_any N (some ⟨g, 0, none⟩) a c cap l W.drew hl (show Arcs W.drew _ l from hsW.arcs.on (below_drewN _ W 1)) (show Arcs W.drew a l from hrW.on (below_drewN _ W 1)))
  have HG := Lib.hid hg
  have HH := Lib.hid h1
  have HM := Lib.hid m0'
  clear hg h1 hs hr hsW hrW m0
  go_enter Try.func17, Try.ntmps17
  go_wp2_with fail
  go_region_held3 (fun w' => w'.cell? ⟨w.heap.size, 0, none⟩ = some (.int .i64 N) ∧ w'.cell? ⟨w.heap.size, 1, none⟩ = some (.slice (some ⟨g, 0, none⟩) l.length c) ∧ w'.cell? ⟨w.heap.size + 1, 0, none⟩ = some (.int .i64 N) ∧ w'.cell? ⟨w.heap.size + 1, 1, none⟩ = some (.slice a l.length cap) ∧ w'.cell? ⟨g, l.length * 3, none⟩ = some (.int .i64 (-77))) (go_keep) ((go_at_call 33; refine HS.out.mono ?_; rintro e w5 ⟨rfl, hb5⟩; obtain ⟨⟨p0, p1⟩, _, _⟩ := two_cells ((hb5.block _ (lt_of_block HG.out)).trans HG.out); obtain ⟨⟨q0, q1⟩, _, _⟩ := two_cells ((hb5.block _ (lt_of_block HH.out)).trans HH.out); have q2 := (hb5.cell (p := ⟨g, l.length * 3, none⟩) hgl).trans HM.out))
  go_wp2_with fail
  go_ret
  exact ⟨rfl, hb0.trans ((below_drewN _ W 1).trans (hb5.mono (by have := hb0.size; show w.heap.size ≤ W.heap.size; omega)))⟩
theorem own_wide {w : World} {B : Nat} {e : TypeId} {size g n c : Nat} {xs : List Value} (h : w.ownsRow B e size (.slice (some ⟨g, 0, none⟩) n c) n xs) : ∃ ys, w.ownsRow B e size (.slice (some ⟨g, 0, none⟩) c c) c ys := by
  rcases h.2 with ⟨h', _⟩ | ⟨g', c', cur, h', hb, hg, hnc, hm, hcs, _⟩
  · cases h'
  · injection h' with e1 e2 e3
    injection e1 with e1
    injection e1 with e1
    subst e1 e3
    refine ⟨cur.toList.take (c * size), ?_, Or.inr ⟨g, c, cur, rfl, hb, hg, Nat.le_refl _, hm, hcs, rfl⟩⟩
    rw [List.length_take, Array.length_toList, hcs]; omega
set_option maxRecDepth 100000 in
set_option maxHeartbeats 400000 in
theorem spoilInts_none (x : Int) (w : World) : Calls Try.prog 16 #[.slice none 0 0, .int .i64 x] w fun e w' => e = .returned (.tuple #[]) ∧ w' = w := by
  go_enter Try.func16, Try.ntmps16
  go_wp2_with fail
  refine wp_loop_rounds 1 ?_
  rw [rounds_succ]
  go_wp2_with fail
  go_end0
  exact ⟨rfl, rfl⟩
set_option maxRecDepth 100000 in
set_option maxHeartbeats 400000 in
theorem spoilInts_some (g n m B : Nat) (x : Int) (xs : List Value) (w : World) (hn : n ≤ 9223372036854775807) (hown : w.ownsRow B 3 1 (.slice (some ⟨g, 0, none⟩) n n) n xs) :
    Calls Try.prog 16 #[.slice (some ⟨g, 0, none⟩) m n, .int .i64 x] w fun e w' => e = .returned (.tuple #[]) ∧ Below B w w' := by
  have hgB : B ≤ g := (hown.lt g rfl).1
  go_enter Try.func16, Try.ntmps16
  go_wp2_with fail
  go_loopw [4] (fun i wr => ∃ (k : Nat) (xs : List Value), k ≤ n ∧ i = .int .i64 k ∧ wr.ownsRow B 3 1 (.slice (some ⟨g, 0, none⟩) n n) n xs ∧ Below B w wr) (fun i _ => n - (intOf i).toNat)
  case atStart => exact ⟨0, xs, Nat.zero_le _, rfl, hown, Below.refl _ _⟩
  case round =>
    obtain ⟨k, ys, hk, rfl, ho, hbel⟩ := hrel
    by_cases hlt : k < n
    · have hyl : k < ys.length := by have := ho.1; omega
      have c2 : wr.cell? ⟨g, k, none⟩ = some ys[k] := (ho.cellAt k (by omega)).trans (List.getElem?_eq_getElem hyl)
      have f2 : wr.frozen? ⟨g, k, none⟩ = false := ho.frozenAt k
      generalize ys[k] = y at c2
      have HS := Lib.hid (ho.stored k (.int .i64 x))
      go_wp2_with fail
      exact ⟨⟨k + 1, _, by omega, by go_num, HS.out.1, hbel.setCell hgB _⟩, by simp [intOf]; omega⟩
    · go_wp2_with fail
      go_end0
      exact ⟨rfl, hbel⟩
theorem spoilInts_any (a : Option Addr) (c B : Nat) (x : Int) (xs : List Int) (w : World) (hown : w.ownsRow B 3 1 (.slice a xs.length c) xs.length (cellsI xs)) :
    Calls Try.prog 16 #[.slice a xs.length c, .int .i64 x] w fun e w' => e = .returned (.tuple #[]) ∧ Below B w w' := by
  rcases hown.2 with ⟨h', h0⟩ | ⟨g, c', cur, h', hb, hg, hnc, hm, _⟩
  · injection h' with e1 e2 e3
    subst e1 e3
    rw [h0]
    refine (spoilInts_none x w).mono ?_
    rintro e w' ⟨rfl, rfl⟩
    exact ⟨rfl, Below.refl _ _⟩
  · injection h' with e1 e2 e3
    subst e1 e3
    obtain ⟨ys, hy⟩ := own_wide hown
    exact spoilInts_some g c xs.length B x ys w (by unfold maxLen at hm; omega) hy
end Go.Proofs.Ytgkpmcpkobphpaa.T3
