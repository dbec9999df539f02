/-
  The first of a vertex's moves: the mathematics. A map from labels to numbers; moves in memory; the contracts of cells.ahead and cells.gain. The contract of cells.gain.
-/
import Derived.Test.YtgpaoiddjlpcmaaZAK
import Derived.Maps.OwnSet
import Derived.Maps.OwnOps
import Derived.Deep.DeepMust
import Derived.Deep.RegionHeld3
namespace Go.Proofs.Ytgpaoiddjlpcmaa
open Go.RowKit Go.Maps
/-- Block b is a map that has a number for some of the first k labels, and 0 for the others. -/
def MapI (w : World) (b nn k : Nat) (F : Nat → Nat) : Prop := ∃ D : DataW Unit, w.ownsMap Try.prog 3 (plainElem (H := Unit) Try.prog 3) b nn D ∧ (∀ x : Nat, x ≤ 100000000 → D.atKey (.int .i64 (x : Int)) (.lit (.int .i64 0)) = .lit (.int .i64 ((F x : Nat) : Int))) ∧ ∀ x : Int, Maps.has D (.int .i64 x) = true → ∃ y : Nat, y < k ∧ x = (y : Int)
theorem MapI.made (w : World) (k : Nat) : MapI (w.alloc (.map #[] 0)) w.heap.size 0 k (fun _ => 0) := ⟨_, World.ownsMap_made _ _ _ _, fun x _ => by simp [DataW.atKey], fun x hx => by simp [Maps.has] at hx⟩
theorem MapI.kept {w w' : World} {b nn k : Nat} {F : Nat → Nat} {row : Option Nat} (h : MapI w b nn k F) (hg : w.grownBy w' row) (hne : some b ≠ row) : MapI w' b nn k F := by
  obtain ⟨D, h1, h2⟩ := h
  exact ⟨D, h1.kept hg hne, h2⟩
theorem MapI.lt {w : World} {b nn k : Nat} {F : Nat → Nat} (h : MapI w b nn k F) : b < w.heap.size := by
  obtain ⟨D, h1, _⟩ := h
  exact h1.lt
theorem MapI.fr {D : Nat → Prop} {w w' : World} {b nn k : Nat} {F : Nat → Nat} (h : MapI w b nn k F) (hf : Fr D w w') (hn : ¬ D b) : MapI w' b nn k F := by
  obtain ⟨D', h1, h2⟩ := h
  refine ⟨D', ?_, h2⟩
  obtain ⟨es, ck, g1, g2, g3, g4⟩ := h1
  exact ⟨es, ck, (hf.block b (lt_of_block g1) hn).trans g1, g2, g3, g4⟩
theorem MapI.on {w w' : World} {b nn k : Nat} {F : Nat → Nat} (h : MapI w b nn k F) (hb : Below w.heap.size w w') : MapI w' b nn k F := h.fr (D := fun _ => False) ⟨hb.os, hb.tape, hb.output, hb.size, fun j hj _ => hb.block j hj⟩ id
/-- What is read at a label. -/
theorem MapI.look {w : World} {b nn k : Nat} {F : Nat → Nat} (h : MapI w b nn k F) {x : Nat} (hx : x ≤ 100000000) : (Instr.lookup 81 (.map (some b)) (.int .i64 (x : Int)) false).run Try.prog w = .ok (.int .i64 ((F x : Nat) : Int)) w := by
  obtain ⟨D, h1, h2, _⟩ := h
  obtain ⟨c, hr, hc, _⟩ := h1.lookup_int (t := 81) law3 Try.underlying81 Try.underlying3 (zero3 _) (keyOf_int_mk Try.underlying3 (wfN (show x ≤ 9223372036854775807 by omega)))
  have h3 := (h2 x hx).symm.trans hc
  clear h2 hc hx
  simp only [DataW.lit.injEq, Lit.int.injEq, true_and] at h3
  rw [hr, ← h3]
/-- A move: of a vertex to a label, with its gain. -/
structure M where
  v : Nat
  l : Nat
  g : Int
def M.val (m : M) : Value := .agg #[.int .i64 (m.v : Int), .int .i64 (m.l : Int), .int .i64 m.g]
/-- Is one move ahead of another, where labels stand by e? -/
def ahB (x y : M) (e1 e2 : Int) : Bool := if x.g = y.g then decide (e1 < e2) else decide (y.g < x.g)
theorem two_below (w : World) (o o' : Obj) : Below w.heap.size w ((w.alloc o).alloc o') := ((Below.refl _ _).alloc (Nat.le_refl _) _).alloc (by simp) _
set_option maxRecDepth 100000 in
set_option maxHeartbeats 1600000 in
theorem ahead_any (cb eg k ec : Nat) (x y : M) (e1 e2 : Int) (w : World) (hc : w.cell? ⟨cb, 3, none⟩ = some (.slice (some ⟨eg, 0, none⟩) k ec)) (hcb : cb < w.heap.size) (heg : eg < w.heap.size) (h1 : w.cell? ⟨eg, x.l, none⟩ = some (.int .i64 e1)) (h2 : w.cell? ⟨eg, y.l, none⟩ = some (.int .i64 e2)) (hx : x.l < k) (hy : y.l < k) :
    Calls Try.prog 61 #[.pointer (some ⟨cb, 0, none⟩), x.val, y.val] w fun e w' => e = .returned (.bool (ahB x y e1 e2)) ∧ Below w.heap.size w w' := by
  have HB0 := Lib.hid (two_below w (Obj.cells #[Value.int IntKind.i64 x.v, Value.int IntKind.i64 x.l, Value.int IntKind.i64 x.g] 65) (Obj.cells #[Value.int IntKind.i64 y.v, Value.int IntKind.i64 y.l, Value.int IntKind.i64 y.g] 65))
  have hg2 : ((w.alloc (Obj.cells #[Value.int IntKind.i64 x.v, Value.int IntKind.i64 x.l, Value.int IntKind.i64 x.g] 65)).alloc (Obj.cells #[Value.int IntKind.i64 y.v, Value.int IntKind.i64 y.l, Value.int IntKind.i64 y.g] 65)).heap[w.heap.size + 1]? = some (Obj.cells #[Value.int IntKind.i64 y.v, Value.int IntKind.i64 y.l, Value.int IntKind.i64 y.g] 65) := by
    have h := heap_top (w.alloc (Obj.cells #[Value.int IntKind.i64 x.v, Value.int IntKind.i64 x.l, Value.int IntKind.i64 x.g] 65)) (Obj.cells #[Value.int IntKind.i64 y.v, Value.int IntKind.i64 y.l, Value.int IntKind.i64 y.g] 65)
    rw [World.size_alloc] at h
    exact h
  have hg1 : ((w.alloc (Obj.cells #[Value.int IntKind.i64 x.v, Value.int IntKind.i64 x.l, Value.int IntKind.i64 x.g] 65)).alloc (Obj.cells #[Value.int IntKind.i64 y.v, Value.int IntKind.i64 y.l, Value.int IntKind.i64 y.g] 65)).heap[w.heap.size]? = some (Obj.cells #[Value.int IntKind.i64 x.v, Value.int IntKind.i64 x.l, Value.int IntKind.i64 x.g] 65) := (Below.heap_alloc _ _ _ (by simp)).trans (heap_top w _)
  have c3 := (HB0.out.cell (p := ⟨cb, 3, none⟩) hcb).trans hc
  have d1 := (HB0.out.cell (p := ⟨eg, x.l, none⟩) heg).trans h1
  have d2 := (HB0.out.cell (p := ⟨eg, y.l, none⟩) heg).trans h2
  obtain ⟨x0, x1, x2⟩ := three_cells hg1
  obtain ⟨y0, y1, y2⟩ := three_cells hg2
  obtain ⟨xv, xl, xg⟩ := x
  obtain ⟨yv, yl, yg⟩ := y
  have HXV : Hid ((⟨xv, xl, xg⟩ : M).val = .agg #[.int .i64 (xv : Int), .int .i64 (xl : Int), .int .i64 xg]) := rfl
  have HYV : Hid ((⟨yv, yl, yg⟩ : M).val = .agg #[.int .i64 (yv : Int), .int .i64 (yl : Int), .int .i64 yg]) := rfl
  rw [HXV.out, HYV.out]
  have hx' : (xl : Int) < k := by have : xl < k := hx; omega
  have hy' : (yl : Int) < k := by have : yl < k := hy; omega
  have HAB : Hid (ahB ⟨xv, xl, xg⟩ ⟨yv, yl, yg⟩ e1 e2 = if xg = yg then decide (e1 < e2) else decide (yg < xg)) := rfl
  rw [HAB.out]
  simp only at x0 x1 x2 y0 y1 y2 d1 d2 c3 HB0
  clear hg1 hg2 hc h1 h2 hx hy HAB HXV HYV
  generalize hp : w.heap.size = p at *
  by_cases hgg : xg = yg
  · subst hgg
    have t1 : (xg != xg) = false := by simp
    rw [if_pos rfl]
    go_enter Try.func61, Try.ntmps61
    go_wp2_with fail
    generalize hW : (w.alloc (Obj.cells #[Value.int IntKind.i64 xv, Value.int IntKind.i64 xl, Value.int IntKind.i64 xg] 65)).alloc (Obj.cells #[Value.int IntKind.i64 yv, Value.int IntKind.i64 yl, Value.int IntKind.i64 xg] 65) = W at *
    clear hW
    go_quiet (fail)
    go_wp2_with fail
    go_ret
    exact ⟨rfl, HB0.out.trans ⟨rfl, rfl, rfl, Nat.le_refl _, fun _ _ => rfl⟩⟩
  · have t1 : (xg != yg) = true := by simpa using hgg
    rw [if_neg hgg]
    clear hgg
    go_enter Try.func61, Try.ntmps61
    go_wp2_with fail
    go_ret
    exact ⟨rfl, HB0.out⟩
end Go.Proofs.Ytgpaoiddjlpcmaa
namespace Go.Proofs.Ytgpaoiddjlpcmaa
open Go.RowKit Go.Maps
set_option maxRecDepth 100000 in
set_option maxHeartbeats 1600000 in
theorem gain_any (cb lg lc pg pc n b nn k v x lv : Nat) (F : Nat → Nat) (w : World) (hc1 : w.cell? ⟨cb, 1, none⟩ = some (.slice (some ⟨lg, 0, none⟩) n lc)) (hc5 : w.cell? ⟨cb, 5, none⟩ = some (.slice (some ⟨pg, 0, none⟩) n pc)) (hl : w.cell? ⟨lg, v, none⟩ = some (.int .i64 (lv : Int))) (hm : w.cell? ⟨pg, v, none⟩ = some (.map (some b))) (hv : v < n) (hM : MapI w b nn k F) (hx : x ≤ 100000000) (hlv : lv ≤ 100000000) (hF : ∀ y, F y ≤ 100000000) :
    Calls Try.prog 26 #[.pointer (some ⟨cb, 0, none⟩), .int .i64 v, .int .i64 x] w fun e w' => e = .returned (.int .i64 (((F x : Nat) : Int) - ((F lv : Nat) : Int))) ∧ Below w.heap.size w w' := by
  have hv' : (v : Int) < n := by omega
  have l1 : ∀ j, (Instr.lookup 81 (.map (some b)) (.int .i64 (x : Int)) false).run Try.prog (w.drewN j) = .ok (.int .i64 ((F x : Nat) : Int)) (w.drewN j) := fun j => (hM.on ⟨rfl, rfl, rfl, Nat.le_refl _, fun _ _ => rfl⟩ : MapI (w.drewN j) b nn k F).look hx
  have l2 : ∀ j, (Instr.lookup 81 (.map (some b)) (.int .i64 (lv : Int)) false).run Try.prog (w.drewN j) = .ok (.int .i64 ((F lv : Nat) : Int)) (w.drewN j) := fun j => (hM.on ⟨rfl, rfl, rfl, Nat.le_refl _, fun _ _ => rfl⟩ : MapI (w.drewN j) b nn k F).look hlv
  have f1 := hF x
  have f2 := hF lv
  generalize F x = fx at *
  generalize F lv = fl at *
  have hw : IntKind.i64.wrap ((fx : Int) - (fl : Int)) = (fx : Int) - (fl : Int) := by rw [IntKind.wrap_i64]; omega
  clear hM hF
  go_enter Try.func26, Try.ntmps26
  go_wp2_with fail
  go_quiet (fail)
  go_wp2_with fail
  go_ret
  exact ⟨rfl, ⟨rfl, rfl, rfl, Nat.le_refl _, fun _ _ => rfl⟩⟩
end Go.Proofs.Ytgpaoiddjlpcmaa
namespace Go.Proofs.Ytgpaoiddjlpcmaa
open Go.RowKit Go.Maps
/-- What has been found among some labels. -/
structure FoS (k : Nat) (F S : Nat → Nat) (Le : Nat → Int) (bd : Int) (own v : Nat) (Q : Nat → Prop) (m : M) : Prop where
  v : m.v = v
  l : m.l < k
  g : 0 ≤ m.g
  some : 0 < m.g → (F m.l : Int) - own = m.g ∧ (S m.l : Int) < bd ∧ ∀ y, y < k → Q y → (S y : Int) < bd → (F y : Int) - own < m.g ∨ (F y : Int) - own = m.g ∧ Le m.l ≤ Le y
  none : m.g = 0 → ∀ y, y < k → Q y → (S y : Int) < bd → (F y : Int) - own ≤ 0
theorem FoS.start {k : Nat} {F S : Nat → Nat} {Le : Nat → Int} {bd : Int} {own v : Nat} {Q : Nat → Prop} (hk : 0 < k) (hQ : ∀ y, Q y → F y = 0) : FoS k F S Le bd own v Q ⟨v, 0, 0⟩ :=
  ⟨rfl, hk, Int.le_refl _, fun h => absurd h (by simp), fun _ y _ hy _ => by rw [hQ y hy]; omega⟩
theorem FoS.take {k : Nat} {F S : Nat → Nat} {Le : Nat → Int} {bd : Int} {own v z : Nat} {Q Q' : Nat → Prop} {m : M} (h : FoS k F S Le bd own v Q m) (hQ : ∀ y, Q' y → Q y ∨ y = z) (hz : z < k) (hS : (S z : Int) < bd) (ha : ahB ⟨v, z, (F z : Int) - own⟩ m (Le z) (Le m.l) = true) : FoS k F S Le bd own v Q' ⟨v, z, (F z : Int) - own⟩ := by
  unfold ahB at ha
  have hg := h.g
  have key : (F z : Int) - own = m.g ∧ Le z < Le m.l ∨ m.g < (F z : Int) - own := by
    by_cases e : (F z : Int) - own = m.g
    · rw [if_pos e, decide_eq_true_eq] at ha; exact .inl ⟨e, ha⟩
    · rw [if_neg e, decide_eq_true_eq] at ha; exact .inr ha
  refine ⟨rfl, hz, by show 0 ≤ (F z : Int) - own; omega, fun h0 => ⟨rfl, hS, fun y hy hqy hsy => ?_⟩, fun h0 y hy hqy hsy => ?_⟩
  · have h0 : 0 < (F z : Int) - own := h0
    show (F y : Int) - own < (F z : Int) - own ∨ (F y : Int) - own = (F z : Int) - own ∧ Le z ≤ Le y
    rcases hQ y hqy with hq | rfl
    · rcases Int.lt_or_le 0 m.g with e | e
      · have := (h.some e).2.2 y hy hq hsy
        omega
      · have := h.none (by omega) y hy hq hsy
        omega
    · exact .inr ⟨rfl, Int.le_refl _⟩
  · have h0 : (F z : Int) - own = 0 := h0
    rcases hQ y hqy with hq | rfl
    · exact h.none (by omega) y hy hq hsy
    · omega
theorem FoS.leave {k : Nat} {F S : Nat → Nat} {Le : Nat → Int} {bd : Int} {own v z : Nat} {Q Q' : Nat → Prop} {m : M} (h : FoS k F S Le bd own v Q m) (hQ : ∀ y, Q' y → Q y ∨ y = z) (ha : (S z : Int) < bd → ahB ⟨v, z, (F z : Int) - own⟩ m (Le z) (Le m.l) = false) : FoS k F S Le bd own v Q' m := by
  have key : (S z : Int) < bd → (F z : Int) - own < m.g ∨ (F z : Int) - own = m.g ∧ Le m.l ≤ Le z := fun hs => by
    have ha := ha hs
    unfold ahB at ha
    by_cases e : (F z : Int) - own = m.g
    · rw [if_pos e, decide_eq_false_iff_not] at ha; exact .inr ⟨e, by omega⟩
    · rw [if_neg e, decide_eq_false_iff_not] at ha
      have ha : ¬ m.g < (F z : Int) - own := ha
      exact .inl (by omega)
  refine ⟨h.v, h.l, h.g, fun h0 => ⟨(h.some h0).1, (h.some h0).2.1, fun y hy hqy hsy => ?_⟩, fun h0 y hy hqy hsy => ?_⟩
  · rcases hQ y hqy with hq | rfl
    · exact (h.some h0).2.2 y hy hq hsy
    · exact key hsy
  · rcases hQ y hqy with hq | rfl
    · exact h.none h0 y hy hq hsy
    · have := key hsy; omega
theorem FoS.all {k : Nat} {F S : Nat → Nat} {Le : Nat → Int} {bd : Int} {own v : Nat} {Q Q' : Nat → Prop} {m : M} (h : FoS k F S Le bd own v Q m) (hQ : ∀ y, Q' y → Q y) : FoS k F S Le bd own v Q' m :=
  ⟨h.v, h.l, h.g, fun h0 => ⟨(h.some h0).1, (h.some h0).2.1, fun y hy hq hs => (h.some h0).2.2 y hy (hQ y hq) hs⟩, fun h0 y hy hq hs => h.none h0 y hy (hQ y hq) hs⟩
def M.obj (m : M) : Obj := .cells #[.int .i64 (m.v : Int), .int .i64 (m.l : Int), .int .i64 m.g] 65
theorem three_set {w : World} {b : Nat} {u0 u1 u2 : Value} {t : TypeId} (h : w.heap[b]? = some (.cells #[u0, u1, u2] t)) (x y z : Value) : (((w.setCell ⟨b, 0, none⟩ x).setCell ⟨b, 1, none⟩ y).setCell ⟨b, 2, none⟩ z).heap[b]? = some (.cells #[x, y, z] t) := by
  have h1 := heap_setCell_same w b 0 _ _ x h
  have h2 := heap_setCell_same _ b 1 _ _ y h1
  exact (heap_setCell_same _ b 2 _ _ z h2).trans (by simp)
theorem three_far (w : World) (b c : Nat) (hne : c ≠ b) (x y z : Value) : (((w.setCell ⟨b, 0, none⟩ x).setCell ⟨b, 1, none⟩ y).setCell ⟨b, 2, none⟩ z).heap[c]? = w.heap[c]? := by
  rw [Below.heap_setCell _ _ _ _ hne, Below.heap_setCell _ _ _ _ hne, Below.heap_setCell _ _ _ _ hne]
theorem three_below {n : Nat} {a w : World} {b : Nat} (h : Below n a w) (hb : n ≤ b) (x y z : Value) : Below n a (((w.setCell ⟨b, 0, none⟩ x).setCell ⟨b, 1, none⟩ y).setCell ⟨b, 2, none⟩ z) := ((h.setCell hb _).setCell hb _).setCell hb _
end Go.Proofs.Ytgpaoiddjlpcmaa
