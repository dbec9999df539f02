/-
  Matrices as items.
-/
import Derived.Test.YtchmiiclogmheaaDoorMe5
import Derived.Deep.RegionHeld3
namespace Go.Proofs.YtchmiiclogmheaaDoor.C2
open Go.RowKit
/-- An item is a matrix, wherever its lists lie. -/
def IsMx (t : T) (x : MX) : Prop := ∃ a c a' c', t = lT a c [nT x.lv, nT x.ce, nT x.ep, lT a' c' (x.ds.map nT)]
theorem bstep {w w' w'' : World} (h : Below w.heap.size w w') (h2 : Below w'.heap.size w' w'') : Below w.heap.size w w'' := h.trans (h2.mono h.size)
theorem balloc {w w' : World} {o : Obj} (h : Below w.heap.size w w') : Below w.heap.size w (w'.alloc o) := h.alloc h.size _
/-- What the region of a matrix's items reads and writes. -/
def MxS (p q k : Nat) (V : Nat → Value) (lv ce ep : Int) (d : Value) (w : World) : Prop :=
  w.cell? ⟨q, 0, none⟩ = some (.int .i64 lv) ∧ w.cell? ⟨q, 1, none⟩ = some (.int .i64 ce) ∧ w.cell? ⟨q, 2, none⟩ = some (.int .i64 ep) ∧ w.cell? ⟨q, 3, none⟩ = some d ∧
  w.cell? ⟨p, k * 4, none⟩ = some (V (k * 4)) ∧ w.cell? ⟨p, k * 4 + 1, none⟩ = some (V (k * 4 + 1)) ∧ w.cell? ⟨p, k * 4 + 2, none⟩ = some (V (k * 4 + 2)) ∧ w.cell? ⟨p, k * 4 + 3, none⟩ = some (V (k * 4 + 3)) ∧
  w.frozen? ⟨p, k * 4, none⟩ = false ∧ w.frozen? ⟨p, k * 4 + 1, none⟩ = false ∧ w.frozen? ⟨p, k * 4 + 2, none⟩ = false ∧ w.frozen? ⟨p, k * 4 + 3, none⟩ = false
theorem four_sets {w : World} {ty : TypeId} {p n k : Nat} {V : Nat → Value} (h : TbV w p n ty V) (a b c d : Value) : TbV ((((w.setCell ⟨p, k * 4, none⟩ a).setCell ⟨p, k * 4 + 1, none⟩ b).setCell ⟨p, k * 4 + 2, none⟩ c).setCell ⟨p, k * 4 + 3, none⟩ d) p n ty (updV (updV (updV (updV V (k * 4) a) (k * 4 + 1) b) (k * 4 + 2) c) (k * 4 + 3) d) :=
  (((h.set (k * 4) a).set (k * 4 + 1) b).set (k * 4 + 2) c).set (k * 4 + 3) d
theorem four_at {w : World} {p b k : Nat} {a' b' c' d' : Value} (h : b ≠ p) : ((((w.setCell ⟨p, k * 4, none⟩ a').setCell ⟨p, k * 4 + 1, none⟩ b').setCell ⟨p, k * 4 + 2, none⟩ c').setCell ⟨p, k * 4 + 3, none⟩ d').heap[b]? = w.heap[b]? := by
  rw [Below.heap_setCell _ _ _ _ h, Below.heap_setCell _ _ _ _ h, Below.heap_setCell _ _ _ _ h, Below.heap_setCell _ _ _ _ h]
theorem four_blw {w w2 : World} {B p k : Nat} {a' b' c' d' : Value} (h : Below B w w2) (hp : B ≤ p) : Below B w ((((w2.setCell ⟨p, k * 4, none⟩ a').setCell ⟨p, k * 4 + 1, none⟩ b').setCell ⟨p, k * 4 + 2, none⟩ c').setCell ⟨p, k * 4 + 3, none⟩ d') :=
  (((h.setCell (p := ⟨p, k * 4, none⟩) hp _).setCell (p := ⟨p, k * 4 + 1, none⟩) hp _).setCell (p := ⟨p, k * 4 + 2, none⟩) hp _).setCell (p := ⟨p, k * 4 + 3, none⟩) hp _
theorem tbv_mxs {w : World} {p q n k : Nat} {V : Nat → Value} {lv ce ep : Int} {d : Value} (h : TbV w p n 54 V) (hk : k * 4 + 3 < n) (hq : w.heap[q]? = some (.cells #[.int .i64 lv, .int .i64 ce, .int .i64 ep, d] 44 (0, 0))) : MxS p q k V lv ce ep d w := by
  obtain ⟨⟨h1, h2, h3, h4⟩, _⟩ := cells4 hq
  exact ⟨h1, h2, h3, h4, h.cell (by omega), h.cell (by omega), h.cell (by omega), h.cell (by omega), h.free _, h.free _, h.free _, h.free _⟩
/-- What stands behind a matrix that was made an item. -/
structure MxO (p n k : Nat) (wr w' : World) (V : Nat → Value) (x : MX) : Prop where
  ex : ∃ t, IsMx t x ∧ (∀ f, InS (fun b => wr.heap.size ≤ b ∧ b < w'.heap.size) w' f t) ∧ TbV w' p n 54 (updV (updV (updV (updV V (k * 4) (t.c4 0)) (k * 4 + 1) (t.c4 1)) (k * 4 + 2) (t.c4 2)) (k * 4 + 3) (t.c4 3))
  ot : ∀ b, b < wr.heap.size → b ≠ p → w'.heap[b]? = wr.heap[b]?
  be : Below p wr w'
theorem mxo_of {p n k : Nat} {wr wD wB w7 : World} {V : Nat → Value} {x : MX} {g g' : Nat} (hV : TbV wr p n 54 V) (hp : p < wr.heap.size) (hb1 : Below wr.heap.size wr wD)
    (hI : ∀ f, InS (fun b => wr.heap.size ≤ b ∧ b < wD.heap.size) wD f (lT (some ⟨g, 0, none⟩) x.ds.length (x.ds.map nT)))
    (hr : (0 ≤ x.lv ∧ x.lv ≤ 9223372036854775807) ∧ (0 ≤ x.ce ∧ x.ce ≤ 9223372036854775807) ∧ (0 ≤ x.ep ∧ x.ep ≤ 9223372036854775807))
    (hb2 : Below wD.heap.size wD wB) (hg' : wB.heap.size = g')
    (hb3 : Below (wB.alloc (.cells #[.int .i64 1, .int .u64 x.lv, .string ⟨#[]⟩, .slice none 0 0, .int .i64 1, .int .u64 x.ce, .string ⟨#[]⟩, .slice none 0 0, .int .i64 1, .int .u64 x.ep, .string ⟨#[]⟩, .slice none 0 0, .int .i64 3, .int .u64 0, .string ⟨#[]⟩, .slice (some ⟨g, 0, none⟩) x.ds.length x.ds.length] 54)).heap.size (wB.alloc (.cells #[.int .i64 1, .int .u64 x.lv, .string ⟨#[]⟩, .slice none 0 0, .int .i64 1, .int .u64 x.ce, .string ⟨#[]⟩, .slice none 0 0, .int .i64 1, .int .u64 x.ep, .string ⟨#[]⟩, .slice none 0 0, .int .i64 3, .int .u64 0, .string ⟨#[]⟩, .slice (some ⟨g, 0, none⟩) x.ds.length x.ds.length] 54)) w7) :
    MxO p n k wr ((((w7.setCell ⟨p, k * 4, none⟩ (.int .i64 3)).setCell ⟨p, k * 4 + 1, none⟩ (.int .u64 0)).setCell ⟨p, k * 4 + 2, none⟩ (.string ⟨#[]⟩)).setCell ⟨p, k * 4 + 3, none⟩ (.slice (some ⟨g', 0, none⟩) 4 4)) V x := by
  subst hg'
  have hD7 : Below wD.heap.size wD w7 := bstep (balloc hb2) hb3
  have h7 : Below wr.heap.size wr w7 := bstep hb1 hD7
  have hT7 : TbV w7 p n 54 V := hV.same (h7.block p hp)
  have s1 := hb1.size
  have s2 := hb2.size
  have htop := (hb3.block wB.heap.size (by simp)).trans (heap_top wB (.cells #[.int .i64 1, .int .u64 x.lv, .string ⟨#[]⟩, .slice none 0 0, .int .i64 1, .int .u64 x.ce, .string ⟨#[]⟩, .slice none 0 0, .int .i64 1, .int .u64 x.ep, .string ⟨#[]⟩, .slice none 0 0, .int .i64 3, .int .u64 0, .string ⟨#[]⟩, .slice (some ⟨g, 0, none⟩) x.ds.length x.ds.length] 54))
  have hg7 : wB.heap.size < w7.heap.size := lt_of_block htop
  have hF := four_sets (k := k) hT7 (.int .i64 3) (.int .u64 0) (.string ⟨#[]⟩) (.slice (some ⟨wB.heap.size, 0, none⟩) 4 4)
  have hO := fun b (h : b ≠ p) => four_at (w := w7) (k := k) (a' := .int .i64 3) (b' := .int .u64 0) (c' := .string ⟨#[]⟩) (d' := .slice (some ⟨wB.heap.size, 0, none⟩) 4 4) h
  have hB := four_blw (p := p) (k := k) (a' := .int .i64 3) (b' := .int .u64 0) (c' := .string ⟨#[]⟩) (d' := .slice (some ⟨wB.heap.size, 0, none⟩) 4 4) (h7.mono (by omega : p ≤ wr.heap.size)) (Nat.le_refl p)
  generalize ((((w7.setCell ⟨p, k * 4, none⟩ (.int .i64 3)).setCell ⟨p, k * 4 + 1, none⟩ (.int .u64 0)).setCell ⟨p, k * 4 + 2, none⟩ (.string ⟨#[]⟩)).setCell ⟨p, k * 4 + 3, none⟩ (.slice (some ⟨wB.heap.size, 0, none⟩) 4 4)) = W8 at *
  have hlt : ∀ b, b < w7.heap.size → b ≠ p → b < W8.heap.size := fun b hb hn => by
    have h4 : w7.heap[b]? = some w7.heap[b] := Array.getElem?_eq_getElem hb
    rw [← hO b hn] at h4
    exact lt_of_block h4
  refine ⟨⟨lT (some ⟨wB.heap.size, 0, none⟩) 4 [nT x.lv, nT x.ce, nT x.ep, lT (some ⟨g, 0, none⟩) x.ds.length (x.ds.map nT)], ⟨_, _, _, _, rfl⟩, fun f => ?_, hF⟩, fun b hb hn => (hO b hn).trans (h7.block b hb), hB⟩
  have hI8 : ∀ f, InS (fun b => wr.heap.size ≤ b ∧ b < W8.heap.size) W8 f (lT (some ⟨g, 0, none⟩) x.ds.length (x.ds.map nT)) := fun f => InS.same (fun b hb => ⟨⟨hb.1, hlt b (by have := hD7.size; omega) (by omega)⟩, (hO b (by omega)).trans (hD7.block b hb.2)⟩) (hI f)
  have htop8 := (hO wB.heap.size (by omega)).trans htop
  cases f with
  | zero => trivial
  | succ f =>
    have hlen : (x.ds.map nT).length = x.ds.length := List.length_map ..
    refine ⟨⟨by show (0 : Int) ≤ 0; omega, by show (0 : Int) ≤ _; omega, by show (0 : Nat) ≤ _; omega, by show 4 ≤ _; omega⟩, fun _ => ⟨wB.heap.size, 0, rfl, ⟨by omega, hlt _ hg7 (by omega)⟩, fun j hj => ?_⟩, fun j hj => ?_⟩
    · have hj : j < 4 := hj
      have : j = 0 ∨ j = 1 ∨ j = 2 ∨ j = 3 := by omega
      rcases this with rfl | rfl | rfl | rfl
      · exact ⟨by simp [World.cell?, htop8]; rfl, by simp [World.cell?, htop8]; rfl, by simp [World.cell?, htop8]; rfl, show W8.cell? ⟨wB.heap.size, 0 + 0 * 4 + 3, none⟩ = some (.slice none 0 0) by simp [World.cell?, htop8]⟩
      · exact ⟨by simp [World.cell?, htop8]; rfl, by simp [World.cell?, htop8]; rfl, by simp [World.cell?, htop8]; rfl, show W8.cell? ⟨wB.heap.size, 0 + 1 * 4 + 3, none⟩ = some (.slice none 0 0) by simp [World.cell?, htop8]⟩
      · exact ⟨by simp [World.cell?, htop8]; rfl, by simp [World.cell?, htop8]; rfl, by simp [World.cell?, htop8]; rfl, show W8.cell? ⟨wB.heap.size, 0 + 2 * 4 + 3, none⟩ = some (.slice none 0 0) by simp [World.cell?, htop8]⟩
      · refine ⟨by simp [World.cell?, htop8]; rfl, by simp [World.cell?, htop8]; rfl, by simp [World.cell?, htop8]; rfl, ?_⟩
        show W8.cell? ⟨wB.heap.size, 0 + 3 * 4 + 3, none⟩ = some (.slice (some ⟨g, 0, none⟩) (x.ds.map nT).length x.ds.length)
        rw [hlen]
        simp [World.cell?, htop8]
    · have hj : j < 4 := hj
      have : j = 0 ∨ j = 1 ∨ j = 2 ∨ j = 3 := by omega
      rcases this with rfl | rfl | rfl | rfl
      · exact inS_num hr.1.1 (by omega) f
      · exact inS_num hr.2.1.1 (by omega) f
      · exact inS_num hr.2.2.1 (by omega) f
      · exact hI8 f
end Go.Proofs.YtchmiiclogmheaaDoor.C2
