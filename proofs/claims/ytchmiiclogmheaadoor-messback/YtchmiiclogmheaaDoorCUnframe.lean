/-
  Contract of code.Unframe: the frame that stands at a place, and the place behind it, or what is wrong.
-/
import Derived.Test.YtchmiiclogmheaaDoorShelf
import Derived.Test.YtchmiiclogmheaaDoorCBody
namespace Go.Proofs.YtchmiiclogmheaaDoor.C2
open Go.RowKit
set_option maxRecDepth 100000 in
set_option maxHeartbeats 400000 in
theorem clone_any (s : ByteArray) (hs : s.size ≤ 281474976710656) (w : World) :
    Calls Tryd.prog 92 #[.string s] w fun e w' => e = .returned (.string s) ∧ Below w.heap.size w w' := by
  go_enter Tryd.func92, Tryd.ntmps92
  go_wp2_with fail
  refine (Tryd.stringslite_Clone s _ hs).mono ?_
  rintro e w1 ⟨rfl, hb⟩
  go_wp2_with fail
  go_ret
  exact ⟨rfl, hb⟩
set_option maxRecDepth 100000 in
theorem bodyD_codes (l : List UInt8) : (bodyD l).2 = 0 ∨ (bodyD l).2 = 2 ∨ (bodyD l).2 = 23 ∨ (bodyD l).2 = 25 := by
  unfold bodyD
  split
  · simp
  · split
    · simp
    · split
      · simp
      · split
        · simp
        · simp
set_option maxRecDepth 100000 in
theorem bodyD_len (l : List UInt8) : (bodyD l).1.length ≤ l.length ∧ (bodyD l).1.length ≤ 262144 := by
  unfold bodyD
  split
  · simp
  · split
    · simp
    · split
      · simp
      · split
        · constructor
          · simp; omega
          · simp; omega
        · simp
/-- What Unframe answers: the body, the place behind, the fault. -/
def unD (l : List UInt8) (a : Int) : Value :=
  if a < 0 ∨ (l.length : Int) < a then .tuple #[.string ⟨#[]⟩, .int .i64 0, .agg #[.int .i64 0, .int .i64 1]]
  else if (bodyD (l.drop a.toNat)).2 = 0 then .tuple #[.string ⟨(bodyD (l.drop a.toNat)).1.toArray⟩, .int .i64 (a + 8 + (bodyD (l.drop a.toNat)).1.length), .agg #[.int .i64 0, .int .i64 0]]
  else .tuple #[.string ⟨#[]⟩, .int .i64 0, .agg #[.int .i64 a, .int .i64 (bodyD (l.drop a.toNat)).2]]
set_option maxRecDepth 100000 in
theorem bcell {w w1 : World} {a b : Value} {t : TypeId} {B : Nat} (hb : Below B (w.alloc (.cells #[a, b] t)) w1) (hB : w.heap.size < B) : (w1.cell? ⟨w.heap.size, 0, none⟩ = some a ∧ w1.cell? ⟨w.heap.size, 1, none⟩ = some b) ∧ (w1.frozen? ⟨w.heap.size, 0, none⟩ = false ∧ w1.frozen? ⟨w.heap.size, 1, none⟩ = false) := by
  refine ⟨⟨?_, ?_⟩, ?_, ?_⟩
  · rw [hb.cell hB]; simp
  · rw [hb.cell hB]; simp
  · rw [hb.frozen hB]; simp
  · rw [hb.frozen hB]; simp
set_option maxRecDepth 100000 in
theorem two_set {w w1 : World} {B : Nat} {o : Obj} (hb : Below B (w.alloc o) w1) (hB : w.heap.size ≤ B) (u v : Value) : Below w.heap.size w ((w1.setCell ⟨w.heap.size, 0, none⟩ u).setCell ⟨w.heap.size, 1, none⟩ v) :=
  ((((Below.refl _ _).alloc (Nat.le_refl _) _).trans (hb.mono hB)).setCell (Nat.le_refl _) _).setCell (Nat.le_refl _) _
end Go.Proofs.YtchmiiclogmheaaDoor.C2
