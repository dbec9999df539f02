/-
  Contracts of the reference's Turned and Reverse.
-/
import Derived.Test.YtomlmphdnoempaaRCopy
import Derived.Test.YtomlmphdnoempaaPart
namespace Go.Proofs.Ytomlmphdnoempaa
open Go.RowKit
set_option maxHeartbeats 1600000 in
theorem rturned_any (N : Int) (a : Option Addr) (l : List A) (cap : Nat) (w : World) (hlen : l.length * 24 ≤ 140737488351232) (hn : a = none → l = [] ∧ cap = 0) (hr : Arcs w a l) :
    Calls Try.prog 41 #[.agg #[.int .i64 N, .slice a l.length cap]] w fun e w' => ∃ g c', e = .returned (.agg #[.int .i64 N, .slice (some ⟨g, 0, none⟩) l.length c']) ∧ OwnA w' w.heap.size (some ⟨g, 0, none⟩) c' (turned l) ∧ Below w.heap.size w w' := by
  have hb0 : Below w.heap.size w ((w.alloc (.cells #[.int .i64 N, .slice a l.length cap] 24)).alloc (.cells #[.int .i64 0, .slice none 0 0] 24)) := ((Below.refl _ _).alloc (Nat.le_refl _) _).alloc (by simp) _
  have hg : ((w.alloc (.cells #[.int .i64 N, .slice a l.length cap] 24)).alloc (.cells #[.int .i64 0, .slice none 0 0] 24)).heap[w.heap.size]? = some (.cells #[.int .i64 N, .slice a l.length cap] 24) := (Below.heap_alloc _ _ _ (by simp)).trans (heap_top w _)
  have h1 := heap_top (w.alloc (.cells #[.int .i64 N, .slice a l.length cap] 24)) (.cells #[.int .i64 0, .slice none 0 0] 24)
  rw [show (w.alloc (.cells #[.int .i64 N, .slice a l.length cap] 24)).heap.size = w.heap.size + 1 by simp] at h1
  generalize hW : (w.alloc (.cells #[.int .i64 N, .slice a l.length cap] 24)).alloc (.cells #[.int .i64 0, .slice none 0 0] 24) = W at *
  obtain ⟨⟨g0, g1⟩, gf0, gf1⟩ := two_cells hg
  have HN := Lib.hid hn
  have hr0 := hr.on hb0
  have s1 := lt_of_block h1
  clear hn
  go_enter Try.func41, Try.ntmps41
  go_wp2_with fail
  refine (rcopy_any N a l cap _ hlen HN.out hr0).mono ?_
  rintro e w2 ⟨g2, c2, rfl, hown2, hb2⟩
  have hg2 := (hb2.block _ (lt_of_block hg)).trans hg
  have hh2 := (hb2.block _ (lt_of_block h1)).trans h1
  have b2 := bthen hb0 hb2 hb0.size
  have s2 := hb2.size
  clear hb2 hr0 hg h1 g0 g1 gf0 gf1 hb0 hW
  have hh3 := heap_top w2 (.cells #[.int .i64 N, .slice (some ⟨g2, 0, none⟩) l.length c2] 24)
  have hg3 := (Below.heap_alloc w2 (.cells #[.int .i64 N, .slice (some ⟨g2, 0, none⟩) l.length c2] 24) _ (lt_of_block hg2)).trans hg2
  have hq3 := (Below.heap_alloc w2 (.cells #[.int .i64 N, .slice (some ⟨g2, 0, none⟩) l.length c2] 24) _ (lt_of_block hh2)).trans hh2
  have b3 := b2.alloc (by omega) (.cells #[.int .i64 N, .slice (some ⟨g2, 0, none⟩) l.length c2] 24)
  have hgB : W.heap.size ≤ g2 ∧ g2 < w2.heap.size := World.ownsRow.lt hown2 g2 rfl
  have hown3 := hown2.alloc (.cells #[.int .i64 N, .slice (some ⟨g2, 0, none⟩) l.length c2] 24)
  have s3 := lt_of_block hg2
  have s4 := lt_of_block hh2
  obtain ⟨b, o, hab⟩ := hr.b.get
  go_wp2_with fail
  go_loopw [4] (fun i wr => ∃ (k : Nat) (X : List A), k ≤ l.length ∧ i = .int .i64 (k : Int) ∧ Hid (X.length = l.length) ∧ Hid (∀ j, j < l.length → X.getD j A.zero = if j < k then (l.getD j A.zero).turn else l.getD j A.zero) ∧ wr.ownsRow W.heap.size 57 3 (.slice (some ⟨g2, 0, none⟩) l.length c2) l.length (cellsA X) ∧ wr.heap[w.heap.size]? = some (.cells #[.int .i64 N, .slice a l.length cap] 24) ∧ wr.heap[w.heap.size + 1]? = some (.cells #[.int .i64 0, .slice none 0 0] 24) ∧ wr.heap[w2.heap.size]? = some (.cells #[.int .i64 N, .slice (some ⟨g2, 0, none⟩) l.length c2] 24) ∧ Below w.heap.size w wr) (fun i _ => l.length - (intOf i).toNat)
  case atStart => exact ⟨0, l, Nat.zero_le _, rfl, rfl, by intro j hj; rw [if_neg (by omega)], hown3, hg3, hq3, hh3, b3⟩
  case round =>
    obtain ⟨k, X, hk, rfl, HX, HJ, hown, hg4, hq4, hh4, b4⟩ := hrel
    clear hg3 hq3 hh3 hown3 hown2 b3 b2 hg2 hh2
    obtain ⟨⟨g0, g1⟩, gf0, gf1⟩ := two_cells hg4
    obtain ⟨⟨q0, q1⟩, qf0, qf1⟩ := two_cells hq4
    obtain ⟨⟨h0, h1⟩, hf0, hf1⟩ := two_cells hh4
    by_cases hlt : k < l.length
    · obtain ⟨rfl, hbl, hat⟩ := hab (by omega)
      obtain ⟨c0, c1, c2'⟩ := (hat k hlt).onB hbl b4
      have xk := HJ.out k hlt
      rw [if_neg (by omega)] at xk
      have hXl : k < X.length := by rw [HX.out]; exact hlt
      have hown' : OwnA wr W.heap.size (some ⟨g2, 0, none⟩) c2 X := by unfold OwnA; rw [HX.out]; exact hown
      obtain ⟨d0, d1, d2⟩ := hown'.at k hXl
      have f0 := hown'.free (k * 3)
      have f1 := hown'.free (k * 3 + 1)
      have f2 := hown'.free (k * 3 + 2)
      have HO5 := Lib.hid hown'
      have H5 := Lib.hid hh4
      have H6 := Lib.hid hg4
      have H7 := Lib.hid hq4
      have n1 : ¬ b = g2 := by omega
      have n2 : ¬ w.heap.size = g2 := by omega
      have n3 : ¬ w2.heap.size = g2 := by omega
      obtain ⟨x, HXK⟩ := named (l.getD k A.zero)
      rw [HXK.out] at c0 c1 c2'
      clear xk
      generalize X.getD k A.zero = y at *
      clear hown hown' hg4 hq4 hh4 q0 q1 qf0 qf1
      go_wp2_with fail
      go_region
      go_wp2_with fail
      have h9 := HO5.out.put k x.turn hXl
      have e9 : (X.set k x.turn).length = l.length := by rw [List.length_set]; exact HX.out
      refine ⟨⟨k + 1, X.set k x.turn, by omega, by go_num, e9, ?_, ?_, ?_, ?_, ?_, ?_⟩, by simp [intOf]; omega⟩
      · show ∀ j, _
        intro j hj
        rw [getDA_set _ _ _ _ hXl]
        by_cases e : j = k
        · subst e
          rw [if_pos rfl, if_pos (by omega), HXK.out]
        · rw [if_neg e, HJ.out j hj]
          by_cases e2 : j < k
          · rw [if_pos e2, if_pos (by omega)]
          · rw [if_neg e2, if_neg (by omega)]
      · unfold OwnA at h9
        rw [e9] at h9
        exact h9
      · exact (Below.heap_setCell _ _ _ _ n2).trans ((Below.heap_setCell _ _ _ _ n2).trans ((Below.heap_setCell _ _ _ _ n2).trans H6.out))
      · exact (Below.heap_setCell _ _ _ _ (by show w.heap.size + 1 ≠ g2; omega)).trans ((Below.heap_setCell _ _ _ _ (by show w.heap.size + 1 ≠ g2; omega)).trans ((Below.heap_setCell _ _ _ _ (by show w.heap.size + 1 ≠ g2; omega)).trans H7.out))
      · exact (Below.heap_setCell _ _ _ _ n3).trans ((Below.heap_setCell _ _ _ _ n3).trans ((Below.heap_setCell _ _ _ _ n3).trans H5.out))
      · exact (((b4.setCell (by show _ ≤ g2; omega) _).setCell (by show _ ≤ g2; omega) _).setCell (by show _ ≤ g2; omega) _).drew
    · have hX : X = turned l := turned_ext HX.out (fun j hj => by rw [HJ.out j hj, if_pos (by omega)])
      rw [hX] at hown
      have HOWN := Lib.hid hown
      clear hX hown
      go_wp2_with fail
      refine bodyPost_ret (v := .agg #[.int .i64 N, .slice (some ⟨g2, 0, none⟩) l.length c2]) (by simp [results, Try.results41, go_sem, q0, q1]) rfl ⟨g2, c2, rfl, ?_, (b4.setCell (by show _ ≤ w.heap.size + 1; omega) _).setCell (by show _ ≤ w.heap.size + 1; omega) _⟩
      unfold OwnA
      rw [turned_len]
      exact own_base (ownsRow_setCell_below (ownsRow_setCell_below HOWN.out (by show w.heap.size + 1 < _; omega) _) (by show w.heap.size + 1 < _; omega) _) (by omega)
end Go.Proofs.Ytomlmphdnoempaa
