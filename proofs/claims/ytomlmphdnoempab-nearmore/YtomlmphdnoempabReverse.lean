/-
  Contract of graph.Reverse.
-/
import Derived.Test.YtomlmphdnoempabClone
import Derived.BigRegion
namespace Go.Proofs.Ytomlmphdnoempab
open Go.RowKit
/-- An arc, turned about. -/
def A.turn (x : A) : A := ⟨x.t, x.f, x.w⟩
def turned (l : List A) : List A := l.map A.turn
theorem turned_len (l : List A) : (turned l).length = l.length := by unfold turned; simp
theorem turned_getD (l : List A) (j : Nat) (h : j < l.length) : (turned l).getD j A.zero = (l.getD j A.zero).turn := by
  unfold turned; simp [List.getD, List.getElem?_eq_getElem h]
theorem turned_ext {l X : List A} (hx : X.length = l.length) (h : ∀ j, j < l.length → X.getD j A.zero = (l.getD j A.zero).turn) : X = turned l := by
  apply List.ext_getElem (by rw [turned_len]; exact hx)
  intro j h1 h2
  have e1 : X.getD j A.zero = X[j] := by simp [List.getD, List.getElem?_eq_getElem h1]
  have e2 : (turned l).getD j A.zero = (turned l)[j] := by simp [List.getD, List.getElem?_eq_getElem h2]
  rw [← e1, ← e2, turned_getD l j (by omega), h j (by omega)]
theorem getDA_set (L : List A) (k j : Nat) (x : A) (hk : k < L.length) : (L.set k x).getD j A.zero = if j = k then x else L.getD j A.zero := by
  by_cases h : j = k
  · subst h; simp [List.getD, hk]
  · rw [if_neg h]; simp [List.getD, Ne.symm h]
theorem OwnA.free {w : World} {B g c : Nat} {l : List A} (h : OwnA w B (.some ⟨g, 0, none⟩) c l) (k : Nat) : w.frozen? ⟨g, k, none⟩ = false := World.ownsRow.frozenAt h k
theorem OwnA.set0 {w : World} {B g c : Nat} {l : List A} (h : OwnA w B (.some ⟨g, 0, none⟩) c l) (j : Nat) (v : Int) (hj : j < l.length) : OwnA (w.setCell ⟨g, j * 3, none⟩ (.int .i64 v)) B (.some ⟨g, 0, none⟩) c (l.set j ⟨v, (l.getD j A.zero).t, (l.getD j A.zero).w⟩) := by
  have := (World.ownsRow.stored h (j * 3) (.int .i64 v)).1
  rw [(cellsA_set l j v hj).1] at this
  unfold OwnA
  rw [List.length_set]; exact this
theorem OwnA.set1 {w : World} {B g c : Nat} {l : List A} (h : OwnA w B (.some ⟨g, 0, none⟩) c l) (j : Nat) (v : Int) (hj : j < l.length) : OwnA (w.setCell ⟨g, j * 3 + 1, none⟩ (.int .i64 v)) B (.some ⟨g, 0, none⟩) c (l.set j ⟨(l.getD j A.zero).f, v, (l.getD j A.zero).w⟩) := by
  have := (World.ownsRow.stored h (j * 3 + 1) (.int .i64 v)).1
  rw [(cellsA_set l j v hj).2.1] at this
  unfold OwnA
  rw [List.length_set]; exact this
theorem OwnA.set2 {w : World} {B g c : Nat} {l : List A} (h : OwnA w B (.some ⟨g, 0, none⟩) c l) (j : Nat) (v : Int) (hj : j < l.length) : OwnA (w.setCell ⟨g, j * 3 + 2, none⟩ (.int .u32 v)) B (.some ⟨g, 0, none⟩) c (l.set j ⟨(l.getD j A.zero).f, (l.getD j A.zero).t, v⟩) := by
  have := (World.ownsRow.stored h (j * 3 + 2) (.int .u32 v)).1
  rw [(cellsA_set l j v hj).2.2] at this
  unfold OwnA
  rw [List.length_set]; exact this
theorem OwnA.turn {w : World} {B g c : Nat} {X : List A} (h : OwnA w B (.some ⟨g, 0, none⟩) c X) (j : Nat) {x : A} (hj : j < X.length) (hx : X.getD j A.zero = x) : OwnA ((w.setCell ⟨g, j * 3, none⟩ (.int .i64 x.t)).setCell ⟨g, j * 3 + 1, none⟩ (.int .i64 x.f)) B (.some ⟨g, 0, none⟩) c (X.set j x.turn) := by
  have h1 := (h.set0 j x.t hj).set1 j x.f (by rw [List.length_set]; exact hj)
  rw [getDA_set _ _ _ _ hj, if_pos rfl, hx, List.set_set] at h1
  exact h1
/-- A graph that a call made. -/
def MadeG (w w' : World) (e : Ending) (N : Int) (l : List A) (E : Int) : Prop :=
  ∃ a c, e = .returned (.tuple #[.agg #[.int .i64 N, .slice a l.length c], .int .i64 E]) ∧ OwnA w' w.heap.size a c l ∧ (a = none → l = [] ∧ c = 0) ∧ Below w.heap.size w w'
set_option maxHeartbeats 1600000 in
theorem reverse_any (N : Int) (a : Option Addr) (l : List A) (cap : Nat) (w : World) (hlen : l.length * 24 ≤ 140737488351232) (hn : a = none → l = [] ∧ cap = 0) (hr : Arcs w a l) :
    Calls Try.prog 11 #[.agg #[.int .i64 N, .slice a l.length cap]] w fun e w' => MadeG w w' e (if chkE N l = 0 then N else 0) (if chkE N l = 0 then turned l else []) (chkE N l) := by
  have hl : l.length ≤ 9223372036854775807 := by omega
  have hb0 : Below w.heap.size w ((w.alloc (.cells #[.int .i64 N, .slice a l.length cap] 24)).alloc (.cells #[.int .i64 0, .slice none 0 0] 24)) := ((Below.refl _ _).alloc (Nat.le_refl _) _).alloc (by simp) _
  have hg : ((w.alloc (.cells #[.int .i64 N, .slice a l.length cap] 24)).alloc (.cells #[.int .i64 0, .slice none 0 0] 24)).heap[w.heap.size]? = some (.cells #[.int .i64 N, .slice a l.length cap] 24) := (Below.heap_alloc _ _ _ (by simp)).trans (heap_top w _)
  have h1 := heap_top (w.alloc (.cells #[.int .i64 N, .slice a l.length cap] 24)) (.cells #[.int .i64 0, .slice none 0 0] 24)
  rw [show (w.alloc (.cells #[.int .i64 N, .slice a l.length cap] 24)).heap.size = w.heap.size + 1 by simp] at h1
  generalize hW : (w.alloc (.cells #[.int .i64 N, .slice a l.length cap] 24)).alloc (.cells #[.int .i64 0, .slice none 0 0] 24) = W at *
  obtain ⟨⟨g0, g1⟩, gf0, gf1⟩ := two_cells hg
  obtain ⟨T, HT⟩ := named (chkAt N l)
  by_cases hE : chkE N l = 0
  · rw [if_pos hE, if_pos hE, hE]
    have hlen2 := (chk_zero hE).2.2.1
    have HE := Lib.hid hE
    have HN := Lib.hid hn
    have hr0 := hr.on hb0
    clear hE hn
    go_enter Try.func11, Try.ntmps11
    go_wp2_with fail
    refine (check_any N a l cap _ hl hr0).mono ?_
    rintro e w1 ⟨rfl, hb1⟩
    rw [HE.out, HT.out]
    have hg1 := (hb1.block _ (lt_of_block hg)).trans hg
    have hh1 := (hb1.block _ (lt_of_block h1)).trans h1
    have b1 := bthen hb0 hb1 (by have := hb0.size; omega)
    have s1 := lt_of_block hh1
    have hr1 := hr.on b1
    clear hb1 hb0 hr0 hg h1 g0 g1 gf0 gf1 hW
    obtain ⟨⟨g0, g1⟩, gf0, gf1⟩ := two_cells hg1
    go_wp2_with fail
    refine (copied_any N a l cap _ hlen HN.out hr1).mono ?_
    rintro e w2 ⟨a2, c2, rfl, hown2, hn2, hb2⟩
    have HN2 := Lib.hid hn2
    have hg2 := (hb2.block _ (lt_of_block hg1)).trans hg1
    have hh2 := (hb2.block _ (lt_of_block hh1)).trans hh1
    have b2 := bthen b1 hb2 (by omega)
    have s2 := hb2.size
    clear hb2 hr1 hg1 hh1 g0 g1 gf0 gf1 b1 hn2
    have hh3 := heap_top w2 (.cells #[.int .i64 N, .slice a2 l.length c2] 24)
    have hg3 := (Below.heap_alloc w2 (.cells #[.int .i64 N, .slice a2 l.length c2] 24) _ (lt_of_block hg2)).trans hg2
    have hq3 := (Below.heap_alloc w2 (.cells #[.int .i64 N, .slice a2 l.length c2] 24) _ (lt_of_block hh2)).trans hh2
    have b3 := b2.alloc (by omega) (.cells #[.int .i64 N, .slice a2 l.length c2] 24)
    have hown3 := hown2.alloc (.cells #[.int .i64 N, .slice a2 l.length c2] 24)
    obtain ⟨⟨g0, g1⟩, gf0, gf1⟩ := two_cells hg2
    have s3 := lt_of_block hg2
    have s4 := lt_of_block hh2
    obtain ⟨b, o, hab⟩ := hr.b.get
    go_wp2_with fail
    go_loopw [23] (fun i wr => ∃ (k : Nat) (X : List A), k ≤ l.length ∧ i = .int .i64 (k : Int) ∧ Hid (X.length = l.length) ∧ Hid (∀ j, j < l.length → X.getD j A.zero = if j < k then (l.getD j A.zero).turn else l.getD j A.zero) ∧ wr.ownsRow w1.heap.size 40 3 (.slice a2 l.length c2) l.length (cellsA X) ∧ wr.heap[w.heap.size]? = some (.cells #[.int .i64 N, .slice a l.length cap] 24) ∧ wr.heap[w.heap.size + 1]? = some (.cells #[.int .i64 0, .slice none 0 0] 24) ∧ wr.heap[w2.heap.size]? = some (.cells #[.int .i64 N, .slice a2 l.length c2] 24) ∧ Below w.heap.size w wr) (fun i _ => l.length - (intOf i).toNat)
    case atStart => exact ⟨0, l, Nat.zero_le _, rfl, rfl, by intro j hj; rw [if_neg (by omega)], hown3, hg3, hq3, hh3, b3⟩
    case round =>
      obtain ⟨k, X, hk, rfl, HX, HJ, hown, hg4, hq4, hh4, b4⟩ := hrel
      clear g0 g1 gf0 gf1 hg3 hq3 hh3 hown3 hown2 b3 b2 hg2 hh2
      obtain ⟨⟨g0, g1⟩, gf0, gf1⟩ := two_cells hg4
      obtain ⟨⟨q0, q1⟩, qf0, qf1⟩ := two_cells hq4
      obtain ⟨⟨h0, h1⟩, hf0, hf1⟩ := two_cells hh4
      by_cases hlt : k < l.length
      · obtain ⟨rfl, hbl, hat⟩ := hab (by omega)
        obtain ⟨c0, c1, c2'⟩ := (hat k hlt).onB hbl b4
        have xk := HJ.out k hlt
        rw [if_neg (by omega)] at xk
        generalize l.getD k A.zero = x at *
        obtain ⟨g, rfl, hgB, hgs⟩ : ∃ g, a2 = some ⟨g, 0, none⟩ ∧ w1.heap.size ≤ g ∧ g < wr.heap.size := by
          rcases hown.2 with ⟨_, h'⟩ | ⟨g, c', cur, h', hb', hg', _⟩
          · omega
          · injection h' with e1 e2 e3
            exact ⟨g, e1, hb', lt_of_block hg'⟩
        have hXl : k < X.length := by rw [HX.out]; exact hlt
        have hown' : OwnA wr w1.heap.size (some ⟨g, 0, none⟩) c2 X := by unfold OwnA; rw [HX.out]; exact hown
        have HO5 := Lib.hid (hown'.alloc (.cells #[.int .i64 x.f, .int .i64 x.t, .int .u32 x.w] 40))
        have hne : g ≠ w2.heap.size := by
          intro e
          rcases hown.2 with ⟨h', _⟩ | ⟨g', c', cur, h', _, hg', _⟩
          · cases h'
          · injection h' with e1 e2 e3
            injection e1 with e1
            injection e1 with e1
            rw [← e1, e, hh4] at hg'
            injection hg' with e5
            injection e5 with e6 e7 e8
            cases e7
        have hs4 := lt_of_block hh4
        go_wp2_with fail
        have d0 := HO5.out.at k hXl
        rw [xk] at d0
        obtain ⟨d0, d1, d2⟩ := d0
        have f0 := HO5.out.free (k * 3)
        have f1 := HO5.out.free (k * 3 + 1)
        have H5 := Lib.hid ((Below.heap_alloc wr (.cells #[.int .i64 x.f, .int .i64 x.t, .int .u32 x.w] 40) _ hs4).trans hh4)
        obtain ⟨⟨y0, y1⟩, _, _⟩ := two_cells H5.out
        obtain ⟨z0, z1, z2⟩ := three_cells (heap_top wr (.cells #[.int .i64 x.f, .int .i64 x.t, .int .u32 x.w] 40))
        have H6 := Lib.hid ((Below.heap_alloc wr (.cells #[.int .i64 x.f, .int .i64 x.t, .int .u32 x.w] 40) _ (lt_of_block hg4)).trans hg4)
        have H7 := Lib.hid ((Below.heap_alloc wr (.cells #[.int .i64 x.f, .int .i64 x.t, .int .u32 x.w] 40) _ (lt_of_block hq4)).trans hq4)
        have b5 := b4.alloc b4.size (.cells #[.int .i64 x.f, .int .i64 x.t, .int .u32 x.w] 40)
        generalize hW5 : wr.alloc (.cells #[.int .i64 x.f, .int .i64 x.t, .int .u32 x.w] 40) = W5 at *
        clear hW5 c0 c1 c2' g0 g1 gf0 gf1 q0 q1 qf0 qf1 h0 h1 hf0 hf1 hown' hown hg4 hq4 hh4 b4
        go_region
        go_wp2_with fail
        have h9 := HO5.out.turn k hXl xk
        have e9 : (X.set k x.turn).length = l.length := by rw [List.length_set]; exact HX.out
        refine ⟨⟨k + 1, X.set k x.turn, by omega, by go_num, e9, ?_, ?_, ?_, ?_, ?_, ?_⟩, by simp [intOf]; omega⟩
        · show ∀ j, _
          intro j hj
          rw [getDA_set _ _ _ _ hXl]
          by_cases e : j = k
          · subst e
            rw [if_pos rfl, if_pos (by omega)]
            have := HJ.out j hj
            rw [if_neg (by omega), xk] at this
            rw [this]
          · rw [if_neg e, HJ.out j hj]
            by_cases e2 : j < k
            · rw [if_pos e2, if_pos (by omega)]
            · rw [if_neg e2, if_neg (by omega)]
        · unfold OwnA at h9
          rw [e9] at h9
          exact h9
        · exact (Below.heap_setCell _ _ _ _ (by show w.heap.size ≠ g; omega)).trans ((Below.heap_setCell _ _ _ _ (by show w.heap.size ≠ g; omega)).trans H6.out)
        · exact (Below.heap_setCell _ _ _ _ (by show w.heap.size + 1 ≠ g; omega)).trans ((Below.heap_setCell _ _ _ _ (by show w.heap.size + 1 ≠ g; omega)).trans H7.out)
        · exact (Below.heap_setCell _ _ _ _ (by show w2.heap.size ≠ g; omega)).trans ((Below.heap_setCell _ _ _ _ (by show w2.heap.size ≠ g; omega)).trans H5.out)
        · exact ((b5.setCell (by show _ ≤ g; omega) _).setCell (by show _ ≤ g; omega) _).drew
      · have hX : X = turned l := turned_ext HX.out (fun j hj => by rw [HJ.out j hj, if_pos (by omega)])
        rw [hX] at hown
        have HOWN := Lib.hid hown
        clear hX hown
        go_wp2_with fail
        refine bodyPost_ret (v := .tuple #[.agg #[.int .i64 N, .slice a2 l.length c2], .int .i64 0]) (by simp [results, Try.results11, go_sem, q0, q1]) rfl ⟨a2, c2, by rw [turned_len], ?_, ?_, (b4.setCell (by show _ ≤ w.heap.size + 1; omega) _).setCell (by show _ ≤ w.heap.size + 1; omega) _⟩
        · unfold OwnA
          rw [turned_len]
          exact own_base (ownsRow_setCell_below (ownsRow_setCell_below HOWN.out (by show w.heap.size + 1 < _; omega) _) (by show w.heap.size + 1 < _; omega) _) (by omega)
        · intro h
          obtain ⟨e1, e2⟩ := HN2.out h
          exact ⟨by rw [e1]; rfl, e2⟩
  · rw [if_neg hE, if_neg hE]
    obtain ⟨E, HE⟩ := named (chkE N l)
    rw [HE.out] at hE ⊢
    have hE' : (E == 0) = false := beq_eq_false_iff_ne.2 hE
    have hr0 := hr.on hb0
    go_enter Try.func11, Try.ntmps11
    go_wp2_with fail
    refine (check_any N a l cap _ hl hr0).mono ?_
    rintro e w1 ⟨rfl, hb1⟩
    rw [HE.out, HT.out]
    have hh1 := (hb1.block _ (lt_of_block h1)).trans h1
    have b1 := bthen hb0 hb1 (by have := hb0.size; omega)
    obtain ⟨⟨r0, r1⟩, rf0, rf1⟩ := two_cells hh1
    clear hb1 hb0 hr0 hg h1 g0 g1 gf0 gf1 hW
    go_wp2_with fail
    refine bodyPost_ret (v := .tuple #[.agg #[.int .i64 0, .slice none 0 0], .int .i64 E]) (by simp [results, Try.results11, go_sem, r0, r1]) rfl ⟨none, 0, rfl, OwnA.nil _ _, fun _ => ⟨rfl, rfl⟩, ?_⟩
    exact (b1.setCell (by show _ ≤ w.heap.size + 1; omega) _).setCell (by show _ ≤ w.heap.size + 1; omega) _
end Go.Proofs.Ytomlmphdnoempab
