/-
  Contracts of graph.Weigh and graph.Change.
-/
import Derived.Test.YtkhgnefnmibomaaSame
namespace Go.Proofs.Ytkhgnefnmibomaa
open Go.RowKit
/-- Weights of a slice lie so in memory. -/
def U32s (w : World) (a : Option Addr) (xs : List Int) : Prop :=
  xs = [] ∨ ∃ b o, a = some ⟨b, o, none⟩ ∧ b < w.heap.size ∧ ∀ j, j < xs.length → w.cell? ⟨b, o + j, none⟩ = some (.int .u32 (xs.getD j 0))
theorem U32s.on {w w' : World} {a : Option Addr} {xs : List Int} (h : U32s w a xs) (hb : Below w.heap.size w w') : U32s w' a xs := by
  rcases h with h | ⟨b, o, rfl, hl, hc⟩
  · exact Or.inl h
  · exact Or.inr ⟨b, o, rfl, Nat.lt_of_lt_of_le hl hb.size, fun j hj => (hb.cell (p := ⟨b, o + j, none⟩) hl).trans (hc j hj)⟩
theorem U32s.get {w : World} {a : Option Addr} {xs : List Int} (h : U32s w a xs) : ∃ b o, 0 < xs.length → a = some ⟨b, o, none⟩ ∧ b < w.heap.size ∧ ∀ j, j < xs.length → w.cell? ⟨b, o + j, none⟩ = some (.int .u32 (xs.getD j 0)) := by
  rcases h with rfl | ⟨b, o, h⟩
  · exact ⟨0, 0, fun h => absurd h (by simp)⟩
  · exact ⟨b, o, fun _ => h⟩
/-- A change of a weight. -/
structure Cg where
  a : Int
  w : Int
instance : Inhabited Cg := ⟨⟨0, 0⟩⟩
def Cg.zero : Cg := ⟨0, 0⟩
/-- Changes of a slice lie so in memory. -/
def Cgs (w : World) (a : Option Addr) (xs : List Cg) : Prop :=
  xs = [] ∨ ∃ b o, a = some ⟨b, o, none⟩ ∧ b < w.heap.size ∧ ∀ j, j < xs.length → w.cell? ⟨b, o + j * 2, none⟩ = some (.int .i64 (xs.getD j Cg.zero).a) ∧ w.cell? ⟨b, o + j * 2 + 1, none⟩ = some (.int .u32 (xs.getD j Cg.zero).w)
theorem Cgs.on {w w' : World} {a : Option Addr} {xs : List Cg} (h : Cgs w a xs) (hb : Below w.heap.size w w') : Cgs w' a xs := by
  rcases h with h | ⟨b, o, rfl, hl, hc⟩
  · exact Or.inl h
  · exact Or.inr ⟨b, o, rfl, Nat.lt_of_lt_of_le hl hb.size, fun j hj => ⟨(hb.cell (p := ⟨b, o + j * 2, none⟩) hl).trans (hc j hj).1, (hb.cell (p := ⟨b, o + j * 2 + 1, none⟩) hl).trans (hc j hj).2⟩⟩
theorem Cgs.get {w : World} {a : Option Addr} {xs : List Cg} (h : Cgs w a xs) : ∃ b o, 0 < xs.length → a = some ⟨b, o, none⟩ ∧ b < w.heap.size ∧ ∀ j, j < xs.length → w.cell? ⟨b, o + j * 2, none⟩ = some (.int .i64 (xs.getD j Cg.zero).a) ∧ w.cell? ⟨b, o + j * 2 + 1, none⟩ = some (.int .u32 (xs.getD j Cg.zero).w) := by
  rcases h with rfl | ⟨b, o, h⟩
  · exact ⟨0, 0, fun h => absurd h (by simp)⟩
  · exact ⟨b, o, fun _ => h⟩
theorem ext_getD {X Y : List A} (hl : X.length = Y.length) (h : ∀ j, j < Y.length → X.getD j A.zero = Y.getD j A.zero) : X = Y := by
  apply List.ext_getElem hl
  intro j h1 h2
  have e1 : X.getD j A.zero = X[j] := by simp [List.getD, List.getElem?_eq_getElem h1]
  have e2 : Y.getD j A.zero = Y[j] := by simp [List.getD, List.getElem?_eq_getElem h2]
  rw [← e1, ← e2, h j (by omega)]
/-- Arcs with other weights. -/
def weighed (l : List A) (ws : List Int) : List A := List.zipWith (fun x u => ⟨x.f, x.t, u⟩) l ws
theorem weighed_len {l : List A} {ws : List Int} (h : ws.length = l.length) : (weighed l ws).length = l.length := by unfold weighed; rw [List.length_zipWith]; omega
theorem weighed_getD {l : List A} {ws : List Int} (h : ws.length = l.length) (j : Nat) (hj : j < l.length) : (weighed l ws).getD j A.zero = ⟨(l.getD j A.zero).f, (l.getD j A.zero).t, ws.getD j 0⟩ := by
  unfold weighed
  simp [List.getD, List.getElem?_zipWith, List.getElem?_eq_getElem hj, List.getElem?_eq_getElem (show j < ws.length by omega)]
def wghE (N : Int) (l : List A) (m : Nat) : Int := if chkE N l = 0 then (if m = l.length then 0 else 4) else chkE N l
theorem OwnA.weigh {w : World} {B g c : Nat} {X : List A} (h : OwnA w B (.some ⟨g, 0, none⟩) c X) (j : Nat) (u : Int) {x : A} (hj : j < X.length) (hx : X.getD j A.zero = x) : OwnA (w.setCell ⟨g, j * 3 + 2, none⟩ (.int .u32 u)) B (.some ⟨g, 0, none⟩) c (X.set j ⟨x.f, x.t, u⟩) := by
  have h1 := h.set2 j u hj
  rw [hx] at h1
  exact h1
set_option maxHeartbeats 1600000 in
theorem weigh_any (N : Int) (a : Option Addr) (l : List A) (cap : Nat) (a' : Option Addr) (ws : List Int) (cap' : Nat) (w : World) (hlen : l.length * 24 ≤ 140737488351232) (hn : a = none → l = [] ∧ cap = 0) (hr : Arcs w a l) (hu : U32s w a' ws) :
    Calls Try.prog 26 #[.agg #[.int .i64 N, .slice a l.length cap], .slice a' ws.length cap'] w fun e w' => MadeG w w' e (if wghE N l ws.length = 0 then N else 0) (if wghE N l ws.length = 0 then weighed l ws else []) (wghE N l ws.length) := by
  have hl : l.length ≤ 9223372036854775807 := by omega
  have hb0 : Below w.heap.size w ((w.alloc (.cells #[.int .i64 N, .slice a l.length cap] 24)).alloc (.cells #[.int .i64 0, .slice none 0 0] 24)) := ((Below.refl _ _).alloc (Nat.le_refl _) _).alloc (by simp) _
  have hg : ((w.alloc (.cells #[.int .i64 N, .slice a l.length cap] 24)).alloc (.cells #[.int .i64 0, .slice none 0 0] 24)).heap[w.heap.size]? = some (.cells #[.int .i64 N, .slice a l.length cap] 24) := (Below.heap_alloc _ _ _ (by simp)).trans (heap_top w _)
  have h1 := heap_top (w.alloc (.cells #[.int .i64 N, .slice a l.length cap] 24)) (.cells #[.int .i64 0, .slice none 0 0] 24)
  rw [show (w.alloc (.cells #[.int .i64 N, .slice a l.length cap] 24)).heap.size = w.heap.size + 1 by simp] at h1
  generalize hW : (w.alloc (.cells #[.int .i64 N, .slice a l.length cap] 24)).alloc (.cells #[.int .i64 0, .slice none 0 0] 24) = W at *
  obtain ⟨⟨g0, g1⟩, gf0, gf1⟩ := two_cells hg
  obtain ⟨T, HT⟩ := named (chkAt N l)
  have hr0 := hr.on hb0
  by_cases hE : chkE N l = 0
  · have hlen2 := (chk_zero hE).2.2.1
    have HE := Lib.hid hE
    have HN := Lib.hid hn
    by_cases hm : ws.length = l.length
    · rw [show wghE N l ws.length = 0 by unfold wghE; rw [if_pos hE, if_pos hm], if_pos rfl, if_pos rfl]
      clear hE hn
      have HM := Lib.hid hm
      have HWL := Lib.hid (weighed_len hm)
      have HWG := Lib.hid (fun j hj => weighed_getD hm j hj)
      have hwl : ws.length = l.length := hm
      rw [hm]
      clear hm hwl
      obtain ⟨Z, HZ⟩ := named (weighed l ws)
      rw [HZ.out] at HWL HWG ⊢
      go_enter Try.func26, Try.ntmps26
      go_wp2_with fail
      refine (check_any N a l cap _ hl hr0).mono ?_
      rintro e w1 ⟨rfl, hb1⟩
      rw [HE.out, HT.out]
      have hg1 := (hb1.block _ (lt_of_block hg)).trans hg
      have hh1 := (hb1.block _ (lt_of_block h1)).trans h1
      have b1 := bthen hb0 hb1 (by have := hb0.size; omega)
      have s1 := lt_of_block hh1
      have hr1 := hr.on b1
      clear hb1 hb0 hr0 hg h1 g0 g1 gf0 gf1 hW
      obtain ⟨⟨g0, g1⟩, gf0, gf1⟩ := two_cells hg1
      go_wp2_with fail
      refine (copied_any N a l cap _ hlen HN.out hr1).mono ?_
      rintro e w2 ⟨a2, c2, rfl, hown2, hn2, hb2⟩
      have HN2 := Lib.hid hn2
      have hg2 := (hb2.block _ (lt_of_block hg1)).trans hg1
      have hh2 := (hb2.block _ (lt_of_block hh1)).trans hh1
      have b2 := bthen b1 hb2 (by omega)
      have s2 := hb2.size
      clear hb2 hr1 hg1 hh1 g0 g1 gf0 gf1 b1 hn2
      have hh3 := heap_top w2 (.cells #[.int .i64 N, .slice a2 l.length c2] 24)
      have hq3 := (Below.heap_alloc w2 (.cells #[.int .i64 N, .slice a2 l.length c2] 24) _ (lt_of_block hh2)).trans hh2
      have b3 := b2.alloc (by omega) (.cells #[.int .i64 N, .slice a2 l.length c2] 24)
      have hown3 := hown2.alloc (.cells #[.int .i64 N, .slice a2 l.length c2] 24)
      have s4 := lt_of_block hh2
      obtain ⟨b, o, hab⟩ := hu.get
      rw [HM.out] at hab
      go_wp2_with fail
      go_loopw [31] (fun i wr => ∃ (k : Nat) (X : List A), k ≤ l.length ∧ i = .int .i64 (k : Int) ∧ Hid (X.length = l.length) ∧ Hid (∀ j, j < l.length → X.getD j A.zero = if j < k then Z.getD j A.zero else l.getD j A.zero) ∧ wr.ownsRow w1.heap.size 53 3 (.slice a2 l.length c2) l.length (cellsA X) ∧ wr.heap[w.heap.size + 1]? = some (.cells #[.int .i64 0, .slice none 0 0] 24) ∧ wr.heap[w2.heap.size]? = some (.cells #[.int .i64 N, .slice a2 l.length c2] 24) ∧ Below w.heap.size w wr) (fun i _ => l.length - (intOf i).toNat)
      case atStart => exact ⟨0, l, Nat.zero_le _, rfl, rfl, by intro j hj; rw [if_neg (by omega)], hown3, hq3, hh3, b3⟩
      case round =>
        obtain ⟨k, X, hk, rfl, HX, HJ, hown, hq4, hh4, b4⟩ := hrel
        clear hq3 hh3 hown3 hown2 b3 b2 hg2 hh2
        obtain ⟨⟨q0, q1⟩, qf0, qf1⟩ := two_cells hq4
        obtain ⟨⟨h0, h1⟩, hf0, hf1⟩ := two_cells hh4
        by_cases hlt : k < l.length
        · obtain ⟨rfl, hbl, hat⟩ := hab (by omega)
          have c0 := (b4.cell (p := ⟨b, o + k, none⟩) hbl).trans (hat k hlt)
          have xk := HJ.out k hlt
          rw [if_neg (by omega)] at xk
          have HZK := Lib.hid (HWG.out k hlt)
          generalize l.getD k A.zero = x at *
          generalize ws.getD k 0 = u at *
          obtain ⟨g, rfl, hgB, hgs⟩ : ∃ g, a2 = some ⟨g, 0, none⟩ ∧ w1.heap.size ≤ g ∧ g < wr.heap.size := by
            rcases hown.2 with ⟨_, h'⟩ | ⟨g, c', cur, h', hb', hg', _⟩
            · omega
            · injection h' with e1 e2 e3
              exact ⟨g, e1, hb', lt_of_block hg'⟩
          have hXl : k < X.length := by rw [HX.out]; exact hlt
          have hown' : OwnA wr w1.heap.size (some ⟨g, 0, none⟩) c2 X := by unfold OwnA; rw [HX.out]; exact hown
          have hne : g ≠ w2.heap.size := by
            intro e
            rcases hown.2 with ⟨h', _⟩ | ⟨g', c', cur, h', _, hg', _⟩
            · cases h'
            · injection h' with e1 e2 e3
              injection e1 with e1
              injection e1 with e1
              rw [← e1, e, hh4] at hg'
              injection hg' with e5
              injection e5 with e6 e7 e8
              cases e7
          have d0 := hown'.at k hXl
          rw [xk] at d0
          obtain ⟨d0, d1, d2⟩ := d0
          have f2 := hown'.free (k * 3 + 2)
          have H9 := Lib.hid (hown'.weigh k u hXl xk)
          clear hown hown'
          go_wp2_with fail
          have e9 : (X.set k ⟨x.f, x.t, u⟩).length = l.length := by rw [List.length_set]; exact HX.out
          refine ⟨⟨k + 1, X.set k ⟨x.f, x.t, u⟩, by omega, by go_num, e9, ?_, ?_, ?_, ?_, ?_⟩, by simp [intOf]; omega⟩
          · show ∀ j, _
            intro j hj
            rw [getDA_set _ _ _ _ hXl]
            by_cases e : j = k
            · subst e
              rw [if_pos rfl, if_pos (by omega), HZK.out]
            · rw [if_neg e, HJ.out j hj]
              by_cases e2 : j < k
              · rw [if_pos e2, if_pos (by omega)]
              · rw [if_neg e2, if_neg (by omega)]
          · have h9 := H9.out
            unfold OwnA at h9
            rw [e9] at h9
            exact h9
          · exact (Below.heap_setCell _ _ _ _ (by show w.heap.size + 1 ≠ g; omega)).trans hq4
          · exact (Below.heap_setCell _ _ _ _ (by show w2.heap.size ≠ g; omega)).trans hh4
          · exact b4.setCell (by show _ ≤ g; omega) _
        · have hX : X = Z := ext_getD (by rw [HX.out, HWL.out]) (fun j hj => by rw [HWL.out] at hj; rw [HJ.out j hj, if_pos (by omega)])
          rw [hX] at hown
          have HOWN := Lib.hid hown
          clear hX hown
          go_wp2_with fail
          refine bodyPost_ret (v := .tuple #[.agg #[.int .i64 N, .slice a2 l.length c2], .int .i64 0]) (by simp [results, Try.results26, go_sem, q0, q1]) rfl ⟨a2, c2, by rw [HWL.out], ?_, ?_, (b4.setCell (by show _ ≤ w.heap.size + 1; omega) _).setCell (by show _ ≤ w.heap.size + 1; omega) _⟩
          · unfold OwnA
            rw [HWL.out]
            exact own_base (ownsRow_setCell_below (ownsRow_setCell_below HOWN.out (by show w.heap.size + 1 < _; omega) _) (by show w.heap.size + 1 < _; omega) _) (by omega)
          · intro h
            obtain ⟨e1, e2⟩ := HN2.out h
            refine ⟨List.eq_nil_of_length_eq_zero ?_, e2⟩
            rw [HWL.out, e1]; rfl
    · rw [show wghE N l ws.length = 4 by unfold wghE; rw [if_pos hE, if_neg hm], if_neg (by decide), if_neg (by decide)]
      have hm' : ((ws.length : Int) == (l.length : Int)) = false := beq_eq_false_iff_ne.2 (by omega)
      clear hE hn
      go_enter Try.func26, Try.ntmps26
      go_wp2_with fail
      refine (check_any N a l cap _ hl hr0).mono ?_
      rintro e w1 ⟨rfl, hb1⟩
      rw [HE.out, HT.out]
      have hg1 := (hb1.block _ (lt_of_block hg)).trans hg
      have hh1 := (hb1.block _ (lt_of_block h1)).trans h1
      have b1 := bthen hb0 hb1 (by have := hb0.size; omega)
      obtain ⟨⟨r0, r1⟩, rf0, rf1⟩ := two_cells hh1
      clear hb1 hb0 hr0 hg h1 g0 g1 gf0 gf1 hW
      obtain ⟨⟨g0, g1⟩, gf0, gf1⟩ := two_cells hg1
      go_wp2_with fail
      refine bodyPost_ret (v := .tuple #[.agg #[.int .i64 0, .slice none 0 0], .int .i64 4]) (by simp [results, Try.results26, go_sem, r0, r1]) rfl ⟨none, 0, rfl, OwnA.nil _ _, fun _ => ⟨rfl, rfl⟩, ?_⟩
      exact (b1.setCell (by show _ ≤ w.heap.size + 1; omega) _).setCell (by show _ ≤ w.heap.size + 1; omega) _
  · have hE2 : wghE N l ws.length = chkE N l := by unfold wghE; rw [if_neg hE]
    rw [hE2, if_neg hE, if_neg hE]
    clear hE2
    obtain ⟨E, HE⟩ := named (chkE N l)
    rw [HE.out] at hE ⊢
    have hE' : (E == 0) = false := beq_eq_false_iff_ne.2 hE
    go_enter Try.func26, Try.ntmps26
    go_wp2_with fail
    refine (check_any N a l cap _ hl hr0).mono ?_
    rintro e w1 ⟨rfl, hb1⟩
    rw [HE.out, HT.out]
    have hh1 := (hb1.block _ (lt_of_block h1)).trans h1
    have b1 := bthen hb0 hb1 (by have := hb0.size; omega)
    obtain ⟨⟨r0, r1⟩, rf0, rf1⟩ := two_cells hh1
    clear hb1 hb0 hr0 hg h1 g0 g1 gf0 gf1 hW
    go_wp2_with fail
    refine bodyPost_ret (v := .tuple #[.agg #[.int .i64 0, .slice none 0 0], .int .i64 E]) (by simp [results, Try.results26, go_sem, r0, r1]) rfl ⟨none, 0, rfl, OwnA.nil _ _, fun _ => ⟨rfl, rfl⟩, ?_⟩
    exact (b1.setCell (by show _ ≤ w.heap.size + 1; omega) _).setCell (by show _ ≤ w.heap.size + 1; omega) _
end Go.Proofs.Ytkhgnefnmibomaa
