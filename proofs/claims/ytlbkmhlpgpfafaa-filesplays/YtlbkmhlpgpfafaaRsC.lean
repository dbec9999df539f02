/-
  The law's step: a crash.
-/
import Derived.Test.YtlbkmhlpgpfafaaRs
import Derived.Test.YtlbkmhlpgpfafaaKt
import Derived.Test.YtlbkmhlpgpfafaaRi
namespace Go.Proofs.Ytlbkmhlpgpfafaa
open Go.RowKit Go.Maps Go.Joins
/-- What the draws are, and a copy of them, beside both disks. -/
structure Drw (w : World) (ow : Nat → Option Nat) (D : Nat → Prop) (g : Nat) (a : Option Addr) (xs : List Int) : Prop where
  og : ow g = none
  dg : ¬ D g
  st : K.StillI w g xs
  la : 0 < xs.length → ∃ b o, a = some ⟨b, o, none⟩ ∧ b < w.heap.size ∧ ow b = none ∧ ¬ D b ∧ ∀ i (hi : i < xs.length), w.cell? ⟨b, o + i, none⟩ = some (.int .i64 xs[i])
section
variable {w w1 w2 w' : World} {d r : Nat} {ow : Nat → Option Nat} {S S' : PS} {D : Nat → Prop} {g : Nat} {a : Option Addr} {xs : List Int}
theorem Drw.fr (h : Drw w ow D g a xs) (f : Fr (fun k => Ow ow k ∨ D k) w w') : Drw w' ow D g a xs := by
  have hn : ∀ k, ow k = none → ¬ D k → ¬ (Ow ow k ∨ D k) := fun k h1 h2 h3 => h3.elim (fun e => e h1) h2
  refine ⟨h.og, h.dg, ⟨Nat.lt_of_lt_of_le h.st.1 f.size, fun j hj => ?_⟩, fun h0 => ?_⟩
  · rw [World.cell?_of_block (w := w) (f.block g h.st.1 (hn g h.og h.dg))]
    exact h.st.2 j hj
  · obtain ⟨b, o, ea, hb, ho, hd, hc⟩ := h.la h0
    refine ⟨b, o, ea, Nat.lt_of_lt_of_le hb f.size, ho, hd, fun i hi => ?_⟩
    rw [World.cell?_of_block (w := w) (f.block b hb (hn b ho hd))]
    exact hc i hi
theorem Drw.on (h : Drw w ow D g a xs) (hb : Below w.heap.size w w') : Drw w' ow D g a xs := h.fr (Fr.of hb)
theorem Drw.own (h : Drw w ow D g a xs) : Ints w ow (some ⟨g, 0, none⟩) xs := fun _ => by
  refine ⟨g, 0, rfl, h.st.1, h.og, fun i hi => ?_⟩
  rw [Nat.zero_add, h.st.2 i (by omega)]
  simp [List.getD, List.getElem?_append_left hi, List.getElem?_eq_getElem hi]
theorem Drw.intd (h : Drw w ow D g a xs) : IntD w D a xs := fun h0 => by
  obtain ⟨b, o, ea, hb, ho, hd, hc⟩ := h.la h0
  exact ⟨b, o, ea, hb, hd, hc⟩
theorem Drw.given (h : Drw w ow D g a xs) : K.Ints w a xs := by
  by_cases h0 : xs = []
  · exact Or.inl h0
  · obtain ⟨b, o, ea, hb, ho, hd, hc⟩ := h.la (List.length_pos_iff.2 h0)
    refine Or.inr ⟨b, o, ea, hb, fun j hj => ?_⟩
    rw [hc j hj]
    simp [List.getD, List.getElem?_eq_getElem hj]
/-- That KeptInts tells that they are as they were. -/
def Kpt (w' : World) (g c2 : Nat) (a : Option Addr) (xs : List Int) (c : Nat) : Prop :=
  ∀ W, Below w'.heap.size w' W → Calls Try.prog 34 #[.slice (some ⟨g, 0, none⟩) xs.length c2, .slice a xs.length c] W fun e w2 => e = .returned (.bool true) ∧ Below W.heap.size W w2
theorem Drw.kpt (h : Drw w' ow D g a xs) (c2 c : Nat) (hx : xs.length * 8 ≤ 140737488351232) (hc : xs.length < c2) : Kpt w' g c2 a xs c := fun W hb =>
  K.keptI_any g c2 a xs c W hx hc ((h.on hb).st) ((h.on hb).given)
theorem To.fr (h : To w w1 d ow S') : Fr (fun k => Ow ow k ∨ D k) w w1 := by
  obtain ⟨_, _, _, f⟩ := h
  exact f.mono (fun k hk => Or.inl hk)
theorem RTo.fr (h : RTo w w1 r S' D) : Fr (fun k => Ow ow k ∨ D k) w w1 := by
  obtain ⟨_, _, _, f⟩ := h
  exact f.mono (fun k hk => Or.inr hk)
theorem PTo.fr (h : PTo w w1 d r S' ow D) : Fr (fun k => Ow ow k ∨ D k) w w1 := by
  obtain ⟨_, _, _, _, _, _, f⟩ := h
  exact f
theorem bx_p {W w1 : World} {g : Nat} {o : Obj} (h : W.heap[g]? = some o) (hg : ow g = none) (hd : ¬ D g) (f : PTo W w1 d r S' ow D) : w1.heap[g]? = some o :=
  (f.fr.block g (lt_of_block h) (fun e => e.elim (fun e => e hg) hd)).trans h
/-- Both orders of the two calls, and the look at the draws behind them. -/
def BothC (W0 : World) (d r : Nat) (ow : Nat → Option Nat) (D : Nat → Prop) (S' : PS) (g c2 : Nat) (a : Option Addr) (xs : List Int) (c : Nat) (E : Value) : Prop :=
  (∀ W, Below W0.heap.size W0 W → Calls Try.prog 20 #[.pointer (some ⟨d, 0, none⟩), .slice (some ⟨g, 0, none⟩) xs.length c2] W fun e w' => e = .returned E ∧ To W0 w' d ow S') ∧
  (∀ w3, To W0 w3 d ow S' → ∀ W, Below w3.heap.size w3 W → Calls Try.prog 33 #[.pointer (some ⟨r, 0, none⟩), .slice a xs.length c] W fun e w' => e = .returned E ∧ PTo W0 w' d r S' ow D ∧ Kpt w' g c2 a xs c) ∧
  (∀ W, Below W0.heap.size W0 W → Calls Try.prog 33 #[.pointer (some ⟨r, 0, none⟩), .slice a xs.length c] W fun e w' => e = .returned E ∧ RTo W0 w' r S' D) ∧
  (∀ w3, RTo W0 w3 r S' D → ∀ W, Below w3.heap.size w3 W → Calls Try.prog 20 #[.pointer (some ⟨d, 0, none⟩), .slice (some ⟨g, 0, none⟩) xs.length c2] W fun e w' => e = .returned E ∧ PTo W0 w' d r S' ow D ∧ Kpt w' g c2 a xs c)
theorem bothC {W0 : World} (hd : DK W0 d ow S) (hr : RK W0 r S D) (hj : ∀ k, D k → ow k = none) (hw : Drw W0 ow D g a xs) (c2 c : Nat) (hx : xs.length * 8 ≤ 140737488351232) (hc2 : xs.length < c2) (hm : c2 ≤ 9223372036854775807)
    (h64 : ∀ x ∈ xs, -9223372036854775808 ≤ x ∧ x ≤ 9223372036854775807) : BothC W0 d r ow D (crS S xs) g c2 a xs c (.int .i64 (crE xs)) := by
  have cp : ∀ W, DK W d ow S → Drw W ow D g a xs → Calls Try.prog 20 #[.pointer (some ⟨d, 0, none⟩), .slice (some ⟨g, 0, none⟩) xs.length c2] W fun e w' => e = .returned (.int .i64 (crE xs)) ∧ To W w' d ow (crS S xs) := fun W h q =>
    Crash_any h (some ⟨g, 0, none⟩) xs c2 (by omega) hm (by omega) q.own
  have cr : ∀ W, RK W r S D → Drw W ow D g a xs → Calls Try.prog 33 #[.pointer (some ⟨r, 0, none⟩), .slice a xs.length c] W fun e w' => e = .returned (.int .i64 (crE xs)) ∧ RTo W w' r (crS S xs) D := fun W h q =>
    RCrash_any h hd.sok a xs c (by omega) q.intd h64
  refine ⟨fun W hb => ?_, fun w3 h3 W hb => ?_, fun W hb => ?_, fun w3 h3 W hb => ?_⟩
  · refine (cp W (hd.on hb) (hw.on hb)).mono ?_
    rintro e w' ⟨rfl, h⟩
    exact ⟨rfl, h.after (Fr.of hb)⟩
  · refine (cr W ((h3.same hb).rk hr hj) (hw.fr (h3.same hb).fr)).mono ?_
    rintro e w' ⟨rfl, h⟩
    have hp := PTo.pr hr hj (h3.same hb) h
    exact ⟨rfl, hp, (hw.fr hp.fr).kpt c2 c hx hc2⟩
  · refine (cr W (hr.on hb) (hw.on hb)).mono ?_
    rintro e w' ⟨rfl, h⟩
    exact ⟨rfl, h.after (fun _ hk => Or.inl hk) (Fr.of hb)⟩
  · refine (cp W ((h3.same hb).dk hd hj) (hw.fr (h3.same hb).fr)).mono ?_
    rintro e w' ⟨rfl, h⟩
    have hp := PTo.rp hd hj (h3.same hb) h
    exact ⟨rfl, hp, (hw.fr hp.fr).kpt c2 c hx hc2⟩
set_option maxRecDepth 100000 in
set_option maxHeartbeats 12800000 in
theorem step_crash {B : Nat} (hd : DK w d ow S) (hr : RK w r S D) (hj : ∀ k, D k → ow k = none) (hB : B ≤ w.heap.size) (hq : ∀ k, k < B → ow k = none ∧ ¬ D k) (k n : Int) (s m : ByteArray) (a : Option Addr) (xs : List Int) (c : Nat) (hk : amg k 8 = 7)
    (hi : IntB B w a xs) (hx : xs.length * 8 ≤ 140737488351232) (hn : a = none → xs = [] ∧ c = 0) (h64 : ∀ x ∈ xs, -9223372036854775808 ≤ x ∧ x ≤ 9223372036854775807) :
    Calls Try.prog 11 #[.pointer (some ⟨d, 0, none⟩), .pointer (some ⟨r, 0, none⟩), .agg #[.int .i64 k, .string s, .string m, .int .i64 n, .slice a xs.length c]] w fun e w' => e = .returned (.bool true) ∧ PTo w w' d r (crS S xs) ow D := by
  have HA := Lib.hid (fun W : World => among_any k 8 (by omega) (by omega) W)
  rw [hk] at HA
  obtain ⟨E, HE⟩ := named (crE xs)
  have HDK := Lib.hid hd
  have HRK := Lib.hid hr
  have HJ := Lib.hid hj
  have hb0 : Below w.heap.size w (w.alloc (.cells #[.int .i64 k, .string s, .string m, .int .i64 n, .slice a xs.length c] 31)) := (Below.refl _ _).alloc (Nat.le_refl _) _
  have HB0 := Lib.hid hb0
  have HBX := Lib.hid (heap_top w (.cells #[.int .i64 k, .string s, .string m, .int .i64 n, .slice a xs.length c] 31))
  have HK := Lib.hid (And.intro hx h64)
  have HI0 : Hid (∀ W, Below w.heap.size w W → 0 < xs.length → ∃ b o, a = some ⟨b, o, none⟩ ∧ b < W.heap.size ∧ ow b = none ∧ ¬ D b ∧ ∀ i (hi : i < xs.length), W.cell? ⟨b, o + i, none⟩ = some (.int .i64 xs[i])) := fun W hb h0 => by
    obtain ⟨b, o, ea, hbB, hc⟩ := hi h0
    have := hb.size
    exact ⟨b, o, ea, by omega, (hq b hbB).1, (hq b hbB).2, fun i hi => (hb.cell (p := ⟨b, o + i, none⟩) (by show b < _; omega)).trans (hc i hi)⟩
  have HG : Hid (∀ W, Below w.heap.size w W → K.Ints W a xs) := fun W hb => by
    by_cases h0 : xs = []
    · exact Or.inl h0
    · obtain ⟨b, o, ea, hb', ho, hd', hc⟩ := HI0.out W hb (List.length_pos_iff.2 h0)
      refine Or.inr ⟨b, o, ea, hb', fun j hj => ?_⟩
      rw [hc j hj]
      simp [List.getD, List.getElem?_eq_getElem hj]
  have HL : Hid (∀ W, Below w.heap.size w W → Calls Try.prog 32 #[.slice a xs.length c] W fun e w' => K.LentI W w' e xs) := fun W hb => K.lendI_any a xs c W hx hn (HG.out W hb)
  obtain ⟨X, HX0⟩ := named xs.length
  rw [HX0.out] at HL HBX hb0 HB0 ⊢
  obtain ⟨q0, q1, q2, q3, q4⟩ := cells5 HBX.out
  clear hd hr hj hk hb0 hi hx hn h64 hq hB
  go_enter Try.func11, Try.ntmps11
  go_wp2_with fail
  refine (HA.out _).mono ?_
  rintro e w1 ⟨rfl, rfl⟩
  go_wp2_with fail
  refine (HL.out _ HB0.out).mono ?_
  rintro e w2 ⟨g, c2, rfl, hc2, hm2, ho2, hb2⟩
  rw [HX0.out] at ho2 hc2 ⊢
  have HB2 := Lib.hid (bthen HB0.out hb2 HB0.out.size)
  have hgB := (ho2.lt g rfl).1
  have HBX2 : Hid (w2.heap[w.heap.size]? = some (.cells #[.int .i64 k, .string s, .string m, .int .i64 n, .slice a X c] 31)) := (hb2.block _ (by simp)).trans HBX.out
  have HOG : Hid (ow w.heap.size = none) := HDK.out.out (Nat.le_refl _)
  have HDG : Hid (¬ D w.heap.size) := fun h => by have := HRK.out.lt _ h; omega
  have hgw : w.heap.size ≤ g := by simp at hgB; omega
  have hDr : Drw w2 ow D g a xs := ⟨HDK.out.out hgw, fun h => by have := HRK.out.lt _ h; omega, K.stillI_own (by rw [HX0.out]; exact ho2), HI0.out w2 HB2.out⟩
  have HX := Lib.hid (bothC (HDK.out.on HB2.out) (HRK.out.on HB2.out) HJ.out hDr c2 c HK.out.1 (by rw [HX0.out]; exact hc2) hm2 HK.out.2)
  unfold BothC Kpt at HX
  rw [HX0.out, HE.out] at HX
  obtain ⟨x0, x1, x2, x3, x4⟩ := cells5 HBX2.out
  clear HA hDr ho2 hgB hb2 HL HG HI0 HK q0 q1 q2 q3 q4 hgw hc2 hm2
  clear HBX HB0
  go_wp2_with fail
  go_region_law (first
    | (rw [if_pos (by rfl)]; go_simp; go_at_call 34; refine (HKP.out _ (by first | exact Below.refl _ _ | exact ⟨rfl, rfl, rfl, Nat.le_refl _, fun _ _ => rfl⟩)).mono ?_; rintro e w5 ⟨rfl, h5⟩; have HFF := Lib.hid (HF.out.same (bthen (by first | exact Below.refl _ _ | exact ⟨rfl, rfl, rfl, Nat.le_refl _, fun _ _ => rfl⟩) h5 (by simp))); clear h5)
    | (rw [if_pos (by rfl)]; go_simp; go_at_call 33; refine (HX.out.2.1 _ HT.out _ (by first | exact Below.refl _ _ | exact ⟨rfl, rfl, rfl, Nat.le_refl _, fun _ _ => rfl⟩)).mono ?_; rintro e w4 ⟨rfl, h4, h4k⟩; have HF := Lib.hid h4; have HKP := Lib.hid h4k; obtain ⟨y0, y1, y2, y3, y4⟩ := cells5 (bx_p HBX2.out HOG.out HDG.out h4); clear h4 h4k)
    | (rw [if_pos (by rfl)]; go_simp; go_at_call 20; refine (HX.out.2.2.2 _ HTR.out _ (by first | exact Below.refl _ _ | exact ⟨rfl, rfl, rfl, Nat.le_refl _, fun _ _ => rfl⟩)).mono ?_; rintro e w4 ⟨rfl, h4, h4k⟩; have HF := Lib.hid h4; have HKP := Lib.hid h4k; obtain ⟨y0, y1, y2, y3, y4⟩ := cells5 (bx_p HBX2.out HOG.out HDG.out h4); clear h4 h4k)
    | (rw [if_pos (by rfl)]; go_simp; go_at_call 20; refine (HX.out.1 _ (by first | exact Below.refl _ _ | exact ⟨rfl, rfl, rfl, Nat.le_refl _, fun _ _ => rfl⟩)).mono ?_; rintro e w3 ⟨rfl, h3⟩; have HT := Lib.hid h3; obtain ⟨z0, z1, z2, z3, z4⟩ := cells5 (bx_to HBX2.out HOG.out h3); clear h3)
    | (rw [if_pos (by rfl)]; go_simp; go_at_call 33; refine (HX.out.2.2.1 _ (by first | exact Below.refl _ _ | exact ⟨rfl, rfl, rfl, Nat.le_refl _, fun _ _ => rfl⟩)).mono ?_; rintro e w3 ⟨rfl, h3⟩; have HTR := Lib.hid h3; obtain ⟨z0, z1, z2, z3, z4⟩ := cells5 (bx_rto HBX2.out HDG.out h3); clear h3))
  all_goals
    go_wp2_with fail
    go_ret
    exact ⟨rfl, (HFF.out.same (by first | exact Below.refl _ _ | exact ⟨rfl, rfl, rfl, Nat.le_refl _, fun _ _ => rfl⟩)).after HB2.out⟩
end
end Go.Proofs.Ytlbkmhlpgpfafaa
