/-
  The law's step: a disk and the reference's, side by side.
-/
import Derived.Test.YtlbkmhlpgpfafaaRl
import Derived.Test.YtlbkmhlpgpfafaaLawSwap
import Derived.Deep.RegionLaw
namespace Go.Proofs.Ytlbkmhlpgpfafaa
open Go.RowKit Go.Maps Go.Joins
section
variable {w w1 w2 w' : World} {d r : Nat} {ow : Nat → Option Nat} {S S' : PS} {D : Nat → Prop}
/-- Both of them, behind a call of each. -/
def PTo (w w' : World) (d r : Nat) (S' : PS) (ow : Nat → Option Nat) (D : Nat → Prop) : Prop :=
  ∃ ow' D', DK w' d ow' S' ∧ RK w' r S' D' ∧ (∀ k, D' k → ow' k = none) ∧ (∀ k, k < w.heap.size → (ow' k = ow k) ∧ (D' k → D k)) ∧ Fr (fun k => Ow ow k ∨ D k) w w'
theorem To.rk (h : To w w1 d ow S') (hr : RK w r S D) (hj : ∀ k, D k → ow k = none) : RK w1 r S D := by
  obtain ⟨ow', _, _, f⟩ := h
  exact hr.fr f (fun k hk ho => ho (hj k hk))
theorem RTo.dk (h : RTo w w1 r S' D) (hd : DK w d ow S) (hj : ∀ k, D k → ow k = none) : DK w1 d ow S := by
  obtain ⟨D', _, _, f⟩ := h
  exact hd.fr f (fun k ho hk => ho (hj k hk))
theorem PTo.pr (hr : RK w r S D) (hj : ∀ k, D k → ow k = none) (h : To w w1 d ow S') (h2 : RTo w1 w2 r S' D) : PTo w w2 d r S' ow D := by
  obtain ⟨ow', a, b, f⟩ := h
  obtain ⟨D', a', b', f'⟩ := h2
  have hD : ∀ k, D k → k < w.heap.size := hr.lt
  have hj' : ∀ k, D k → ow' k = none := fun k hk => (b k (hD k hk)).trans (hj k hk)
  refine ⟨ow', D', a.fr f' (fun k ho hk => ho (hj' k hk)), a', fun k hk => ?_, fun k hk => ⟨b k hk, fun h' => ?_⟩, ?_⟩
  · rcases b' k hk with h' | h'
    · exact hj' k h'
    · exact a.out h'
  · rcases b' k h' with h'' | h''
    · exact h''
    · have := f.size
      omega
  · exact (f.mono (fun k hk => Or.inl hk)).trans f' (fun k hk => Or.inl (Or.inr hk))
theorem PTo.rp (hd : DK w d ow S) (hj : ∀ k, D k → ow k = none) (h : RTo w w1 r S' D) (h2 : To w1 w2 d ow S') : PTo w w2 d r S' ow D := by
  obtain ⟨D', a', b', f'⟩ := h
  obtain ⟨ow', a, b, f⟩ := h2
  have hn : ∀ k, D' k → ow k = none := fun k hk => by
    rcases b' k hk with h' | h'
    · exact hj k h'
    · exact hd.out h'
  refine ⟨ow', D', a, a'.fr f (fun k hk ho => ho (hn k hk)), fun k hk => (b k (a'.lt k hk)).trans (hn k hk), fun k hk => ⟨b k (Nat.lt_of_lt_of_le hk f'.size), fun h' => ?_⟩, ?_⟩
  · rcases b' k h' with h'' | h''
    · exact h''
    · omega
  · exact (f'.mono (fun k hk => Or.inr hk)).trans f (fun k hk => Or.inl (Or.inl hk))
theorem PTo.after (h : PTo w1 w' d r S' ow D) (hb : Below w.heap.size w w1) : PTo w w' d r S' ow D := by
  obtain ⟨ow', D', a, b, c, e, f⟩ := h
  exact ⟨ow', D', a, b, c, fun k hk => e k (Nat.lt_of_lt_of_le hk hb.size), (Fr.of hb).then f⟩
theorem PTo.same (h : PTo w w1 d r S' ow D) (hb : Below w1.heap.size w1 w2) : PTo w w2 d r S' ow D := by
  obtain ⟨ow', D', a, b, c, e, f⟩ := h
  exact ⟨ow', D', a.on hb, b.on hb, c, e, f.trans (Fr.of (D := fun _ => False) hb) (fun k hk => hk.elim)⟩
theorem bx_to {W w1 : World} {g : Nat} {o : Obj} (h : W.heap[g]? = some o) (hg : ow g = none) (f : To W w1 d ow S') : w1.heap[g]? = some o := by
  obtain ⟨_, _, _, f⟩ := f
  exact (f.block g (lt_of_block h) (fun e => e hg)).trans h
theorem bx_rto {W w1 : World} {g : Nat} {o : Obj} (h : W.heap[g]? = some o) (hg : ¬ D g) (f : RTo W w1 r S' D) : w1.heap[g]? = some o := by
  obtain ⟨_, _, _, f⟩ := f
  exact (f.block g (lt_of_block h) hg).trans h
theorem cells5 {w : World} {g : Nat} {a b c e f : Value} {t : TypeId} (h : w.heap[g]? = some (.cells #[a, b, c, e, f] t)) : w.cell? ⟨g, 0, none⟩ = some a ∧ w.cell? ⟨g, 1, none⟩ = some b ∧ w.cell? ⟨g, 2, none⟩ = some c ∧ w.cell? ⟨g, 3, none⟩ = some e ∧ w.cell? ⟨g, 4, none⟩ = some f := by
  simp [World.cell?, h]
theorem To.same (h : To w w1 d ow S') (hb : Below w1.heap.size w1 w2) : To w w2 d ow S' := by
  obtain ⟨ow', a, b, f⟩ := h
  exact ⟨ow', a.on hb, b, f.trans (Fr.of (D := fun _ => False) hb) (fun k hk => hk.elim)⟩
theorem RTo.same (h : RTo w w1 r S' D) (hb : Below w1.heap.size w1 w2) : RTo w w2 r S' D := by
  obtain ⟨D', a, b, f⟩ := h
  exact ⟨D', a.on hb, b, f.trans (Fr.of (D := fun _ => False) hb) (fun k hk => hk.elim)⟩
/-- Both orders of the two calls. -/
def Both (W0 : World) (d r : Nat) (ow : Nat → Option Nat) (D : Nat → Prop) (S' : PS) (P R : Nat) (ap ar : Array Value) (E : Value) : Prop :=
  (∀ W, Below W0.heap.size W0 W → Calls Try.prog P ap W fun e w' => e = .returned E ∧ To W0 w' d ow S') ∧
  (∀ w3, To W0 w3 d ow S' → ∀ W, Below w3.heap.size w3 W → Calls Try.prog R ar W fun e w' => e = .returned E ∧ PTo W0 w' d r S' ow D) ∧
  (∀ W, Below W0.heap.size W0 W → Calls Try.prog R ar W fun e w' => e = .returned E ∧ RTo W0 w' r S' D) ∧
  (∀ w3, RTo W0 w3 r S' D → ∀ W, Below w3.heap.size w3 W → Calls Try.prog P ap W fun e w' => e = .returned E ∧ PTo W0 w' d r S' ow D)
theorem both {W0 : World} {P R : Nat} {ap ar : Array Value} {E : Value} (hd : DK W0 d ow S) (hr : RK W0 r S D) (hj : ∀ k, D k → ow k = none)
    (cp : ∀ W, DK W d ow S → Calls Try.prog P ap W fun e w' => e = .returned E ∧ To W w' d ow S')
    (cr : ∀ W, RK W r S D → Calls Try.prog R ar W fun e w' => e = .returned E ∧ RTo W w' r S' D) : Both W0 d r ow D S' P R ap ar E := by
  refine ⟨fun W hb => ?_, fun w3 h3 W hb => ?_, fun W hb => ?_, fun w3 h3 W hb => ?_⟩
  · refine (cp W (hd.on hb)).mono ?_
    rintro e w' ⟨rfl, h⟩
    exact ⟨rfl, h.after (Fr.of hb)⟩
  · refine (cr W ((h3.same hb).rk hr hj)).mono ?_
    rintro e w' ⟨rfl, h⟩
    exact ⟨rfl, PTo.pr hr hj (h3.same hb) h⟩
  · refine (cr W (hr.on hb)).mono ?_
    rintro e w' ⟨rfl, h⟩
    exact ⟨rfl, h.after (fun _ hk => Or.inl hk) (Fr.of hb)⟩
  · refine (cp W ((h3.same hb).dk hd hj)).mono ?_
    rintro e w' ⟨rfl, h⟩
    exact ⟨rfl, PTo.rp hd hj (h3.same hb) h⟩
set_option maxRecDepth 100000 in
set_option maxHeartbeats 12800000 in
theorem step_sync (hd : DK w d ow S) (hr : RK w r S D) (hj : ∀ k, D k → ow k = none) (k n : Int) (s m : ByteArray) (a : Option Addr) (X c : Nat) (hk : amg k 8 = 2) (hs : s.size ≤ maxLen) :
    Calls Try.prog 11 #[.pointer (some ⟨d, 0, none⟩), .pointer (some ⟨r, 0, none⟩), .agg #[.int .i64 k, .string s, .string m, .int .i64 n, .slice a X c]] w fun e w' => e = .returned (.bool true) ∧ PTo w w' d r (syS S s.data.toList) ow D := by
  have HA := Lib.hid (fun W : World => among_any k 8 (by omega) (by omega) W)
  rw [hk] at HA
  obtain ⟨E, HE⟩ := named (syE S s.data.toList)
  have HDK := Lib.hid hd
  have HRK := Lib.hid hr
  have HJ := Lib.hid hj
  have hb0 : Below w.heap.size w (w.alloc (.cells #[.int .i64 k, .string s, .string m, .int .i64 n, .slice a X c] 31)) := (Below.refl _ _).alloc (Nat.le_refl _) _
  have HB0 := Lib.hid hb0
  have HBX := Lib.hid (heap_top w (.cells #[.int .i64 k, .string s, .string m, .int .i64 n, .slice a X c] 31))
  obtain ⟨q0, q1, q2, q3, q4⟩ := cells5 HBX.out
  clear hd hr hj hk hb0
  go_enter Try.func11, Try.ntmps11
  go_wp2_with fail
  refine (HA.out _).mono ?_
  rintro e w1 ⟨rfl, rfl⟩
  go_wp2_with fail
  have HOG : Hid (ow w.heap.size = none) := HDK.out.out (Nat.le_refl _)
  have HDG : Hid (¬ D w.heap.size) := fun h => by have := HRK.out.lt _ h; omega
  have HX := Lib.hid (both (E := .int .i64 E) (HDK.out.on HB0.out) (HRK.out.on HB0.out) HJ.out (fun W h => by have := Sync_any h s hs; rw [HE.out] at this; exact this) (fun W h => by have := RSync_any h HDK.out.sok s; rw [HE.out] at this; exact this))
  generalize hW0 : w.alloc (.cells #[.int .i64 k, .string s, .string m, .int .i64 n, .slice a X c] 31) = W0 at *
  clear HA hW0
  go_region_law (first
    | (rw [if_pos (by rfl)]; go_simp; go_at_call 26; refine (HX.out.2.1 _ HT.out _ (by first | exact Below.refl _ _ | exact ⟨rfl, rfl, rfl, Nat.le_refl _, fun _ _ => rfl⟩)).mono ?_; rintro e w4 ⟨rfl, h4⟩; have HF := Lib.hid h4; clear h4)
    | (rw [if_pos (by rfl)]; go_simp; go_at_call 17; refine (HX.out.2.2.2 _ HTR.out _ (by first | exact Below.refl _ _ | exact ⟨rfl, rfl, rfl, Nat.le_refl _, fun _ _ => rfl⟩)).mono ?_; rintro e w4 ⟨rfl, h4⟩; have HF := Lib.hid h4; clear h4)
    | (rw [if_pos (by rfl)]; go_simp; go_at_call 17; refine (HX.out.1 _ (by first | exact Below.refl _ _ | exact ⟨rfl, rfl, rfl, Nat.le_refl _, fun _ _ => rfl⟩)).mono ?_; rintro e w3 ⟨rfl, h3⟩; have HT := Lib.hid h3; obtain ⟨x0, x1, x2, x3, x4⟩ := cells5 (bx_to HBX.out HOG.out h3); clear h3)
    | (rw [if_pos (by rfl)]; go_simp; go_at_call 26; refine (HX.out.2.2.1 _ (by first | exact Below.refl _ _ | exact ⟨rfl, rfl, rfl, Nat.le_refl _, fun _ _ => rfl⟩)).mono ?_; rintro e w3 ⟨rfl, h3⟩; have HTR := Lib.hid h3; obtain ⟨x0, x1, x2, x3, x4⟩ := cells5 (bx_rto HBX.out HDG.out h3); clear h3))
  all_goals
    go_wp2_with fail
    go_ret
    exact ⟨rfl, (HF.out.same (by first | exact Below.refl _ _ | exact ⟨rfl, rfl, rfl, Nat.le_refl _, fun _ _ => rfl⟩)).after HB0.out⟩
end
end Go.Proofs.Ytlbkmhlpgpfafaa
