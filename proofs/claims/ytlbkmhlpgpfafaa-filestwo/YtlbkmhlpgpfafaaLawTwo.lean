/-
  FilesTwo answers true.
-/
import Derived.Test.YtlbkmhlpgpfafaaPr
namespace Go.Proofs.Ytlbkmhlpgpfafaa
open Go.RowKit Go.Maps Go.Joins
/-- Two pairs, apart. -/
def Prs (B : Nat) (w : World) (d r d2 r2 : Nat) : Prop :=
  ∃ S S2 E E2, Pr B w d r S E ∧ Pr B w d2 r2 S2 E2 ∧ (∀ k, E k → ¬ E2 k) ∧ (∀ k, E k → k < w.heap.size) ∧ (∀ k, E2 k → k < w.heap.size)
section
variable {w w' : World} {d r d2 r2 B : Nat}
theorem Pr.tight {S : PS} {E : Nat → Prop} (h : Pr B w d r S E) : ∃ E', Pr B w d r S E' ∧ (∀ k, E' k → E k) ∧ (∀ k, E' k → k < w.heap.size) := by
  obtain ⟨hB, ow, D, h1, h2, h3, h4, h5⟩ := h
  exact ⟨fun k => Ow ow k ∨ D k, ⟨hB, ow, D, h1, h2, h3, h4, fun _ h => h⟩, h5, fun k hk => hk.elim (fun h => h1.lt h) (fun h => h2.lt k h)⟩
theorem Prs.swap (h : Prs B w d r d2 r2) : Prs B w d2 r2 d r := by
  obtain ⟨S, S2, E, E2, h1, h2, h3, h4, h5⟩ := h
  exact ⟨S2, S, E2, E, h2, h1, fun k a b => h3 k b a, h5, h4⟩
theorem Prs.on (h : Prs B w d r d2 r2) (hb : Below w.heap.size w w') : Prs B w' d r d2 r2 := by
  obtain ⟨S, S2, E, E2, h1, h2, h3, h4, h5⟩ := h
  exact ⟨S, S2, E, E2, h1.on hb, h2.on hb, h3, fun k hk => Nat.lt_of_lt_of_le (h4 k hk) hb.size, fun k hk => Nat.lt_of_lt_of_le (h5 k hk) hb.size⟩
theorem Prs.step (h : Prs B w d r d2 r2) (x : Ac) (hx : Go.Proofs.Ytlbkmhlpgpfafaa.B.okB B w x) :
    Calls Try.prog 11 #[.pointer (some ⟨d, 0, none⟩), .pointer (some ⟨r, 0, none⟩), .agg #[.int .i64 x.k, .string x.s, .string x.m, .int .i64 x.n, .slice x.a x.xs.length x.c]] w
      fun e w' => e = .returned (.bool true) ∧ Prs B w' d r d2 r2 ∧ Below B w w' := by
  obtain ⟨S, S2, E, E2, h1, h2, h3, h4, h5⟩ := h
  refine (h1.step x hx).mono ?_
  rintro e w' ⟨rfl, S', E', a, b, c, dd⟩
  obtain ⟨E'', a2, b2, c2⟩ := a.tight
  refine ⟨rfl, ⟨S', S2, E'', E2, a2, h2.fr c (fun k hk hk' => h3 k hk' hk), fun k hk hk' => ?_, c2, fun k hk => Nat.lt_of_lt_of_le (h5 k hk) c.size⟩, dd⟩
  rcases b k (b2 k hk) with hq | hq
  · exact h3 k hq hk'
  · have := h5 k hk'
    omega
theorem Prs.alike (h : Prs B w d r d2 r2) :
    Calls Try.prog 12 #[.pointer (some ⟨d, 0, none⟩), .pointer (some ⟨r, 0, none⟩)] w fun e w' => e = .returned (.bool true) ∧ Prs B w' d r d2 r2 ∧ Below w.heap.size w w' := by
  have hs := h
  obtain ⟨S, S2, E, E2, h1, h2, h3, h4, h5⟩ := h
  exact h1.alike.mono fun e w' ⟨a, _, b⟩ => ⟨a, hs.on b, b⟩
theorem Prs.size (h : Prs B w d r d2 r2) : B ≤ w.heap.size := by
  obtain ⟨S, S2, E, E2, h1, _⟩ := h
  exact h1.1
theorem Prs.first {ow ow2 : Nat → Option Nat} {D D2 : Nat → Prop} {w1 w2 w3 w4 : World} (hd : DK w1 d ow S0) (ho : ∀ k, Ow ow k → w.heap.size ≤ k) (hb1 : Below w.heap.size w w1) (hd2 : DK w2 d2 ow2 S0) (ho2 : ∀ k, Ow ow2 k → w1.heap.size ≤ k) (hb2 : Below w1.heap.size w1 w2)
    (hr : RK w3 r S0 D) (hD : ∀ k, D k → w2.heap.size ≤ k) (hb3 : Below w2.heap.size w2 w3) (hr2 : RK w4 r2 S0 D2) (hD2 : ∀ k, D2 k → w3.heap.size ≤ k) (hb4 : Below w3.heap.size w3 w4) :
    Prs w.heap.size w4 d r d2 r2 := by
  have s1 := hb1.size
  have s2 := hb2.size
  have s3 := hb3.size
  have s4 := hb4.size
  have lo : ∀ k, Ow ow k → k < w1.heap.size := fun k h => hd.lt h
  have lo2 : ∀ k, Ow ow2 k → k < w2.heap.size := fun k h => hd2.lt h
  have lD : ∀ k, D k → k < w3.heap.size := hr.lt
  have lD2 : ∀ k, D2 k → k < w4.heap.size := hr2.lt
  have no : ∀ k, ¬ Ow ow k → ow k = none := fun k h => by
    cases hq : ow k with
    | none => rfl
    | some y => exact absurd (show Ow ow k by unfold Ow; rw [hq]; simp) h
  have no2 : ∀ k, ¬ Ow ow2 k → ow2 k = none := fun k h => by
    cases hq : ow2 k with
    | none => rfl
    | some y => exact absurd (show Ow ow2 k by unfold Ow; rw [hq]; simp) h
  refine ⟨S0, S0, fun k => Ow ow k ∨ D k, fun k => Ow ow2 k ∨ D2 k, ?_, ?_, ?_, ?_, ?_⟩
  · refine ⟨by omega, ow, D, ((hd.on hb2).on hb3).on hb4, hr.on hb4, fun k hk => no k (fun h => ?_), fun k hk => ⟨no k (fun h => ?_), fun h => ?_⟩, fun _ h => h⟩
    · have := lo k h; have := hD k hk; omega
    · have := ho k h; omega
    · have := hD k h; omega
  · refine ⟨by omega, ow2, D2, (hd2.on hb3).on hb4, hr2, fun k hk => no2 k (fun h => ?_), fun k hk => ⟨no2 k (fun h => ?_), fun h => ?_⟩, fun _ h => h⟩
    · have := lo2 k h; have := hD2 k hk; omega
    · have := ho2 k h; omega
    · have := hD2 k h; omega
  · rintro k (h | h) (h' | h')
    · have := lo k h; have := ho2 k h'; omega
    · have := lo k h; have := hD2 k h'; omega
    · have := lo2 k h'; have := hD k h; omega
    · have := lD k h; have := hD2 k h'; omega
  · rintro k (h | h)
    · have := lo k h; omega
    · have := lD k h; omega
  · rintro k (h | h)
    · have := lo2 k h; omega
    · exact lD2 k h
end
set_option maxRecDepth 100000 in
set_option maxHeartbeats 6400000 in
theorem law_two (a : Option Addr) (l : List Ac) (cap : Nat) (w : World) (hl : l.length ≤ 140737488351232) (hr : B.Acs w.heap.size w a l) :
    Calls Try.prog 4 #[.slice a l.length cap] w fun e w' => e = .returned (.bool true) ∧ Below w.heap.size w w' := by
  have HACS := Lib.hid hr
  obtain ⟨N, HN⟩ := named l.length
  rw [HN.out]
  have hN : N ≤ 140737488351232 := by rw [← HN.out]; exact hl
  clear hr hl
  go_enter Try.func4, Try.ntmps4
  go_wp2_with fail
  refine (New_any w).mono ?_
  rintro e w0 ⟨d, ow, rfl, h0, ho0, hb0⟩
  go_wp2_with fail
  refine (New_any w0).mono ?_
  rintro e w1 ⟨d2, ow2, rfl, h1, ho1, hb1⟩
  go_wp2_with fail
  refine (RNew_any w1).mono ?_
  rintro e w2 ⟨r, D, rfl, h2, hD2, hb2⟩
  go_wp2_with fail
  refine (RNew_any w2).mono ?_
  rintro e w3 ⟨r2, D2, rfl, h3, hD3, hb3⟩
  have H1 := Lib.hid (Prs.first h0 ho0 hb0 h1 ho1 hb1 h2 hD2 hb2 h3 hD3 hb3)
  have b1 := bthen (bthen (bthen hb0 hb1 hb0.size) hb2 (by have := hb0.size; have := hb1.size; omega)) hb3 (by have := hb0.size; have := hb1.size; have := hb2.size; omega)
  clear h0 h1 h2 h3 hb0 hb1 hb2 hb3 ho0 ho1 hD2 hD3
  go_wp2_with fail
  go_loopw [7] (fun i wr => ∃ (j : Nat), j ≤ N ∧ i = .int .i64 j ∧ Prs w.heap.size wr d r d2 r2 ∧ Below w.heap.size w wr) (fun i _ => N - (intOf i).toNat)
  case atStart => exact ⟨0, Nat.zero_le _, rfl, H1.out, b1⟩
  case round =>
    clear b1
    obtain ⟨j, hj, rfl, h4, b4⟩ := hrel
    by_cases hlt : j < N
    · by_cases hh : j < 200
      · have hjl : j < l.length := by rw [HN.out]; exact hlt
        obtain ⟨bb, o, rfl, hbb, hat⟩ := HACS.out (by omega)
        obtain ⟨p0, p1, p2, p3, p4, hok⟩ := hat j hjl
        clear hat
        generalize l[j] = x at *
        have q0 := (b4.cell (p := ⟨bb, o + j * 5, none⟩) hbb).trans p0
        have q1 := (b4.cell (p := ⟨bb, o + j * 5 + 1, none⟩) hbb).trans p1
        have q2 := (b4.cell (p := ⟨bb, o + j * 5 + 2, none⟩) hbb).trans p2
        have q3 := (b4.cell (p := ⟨bb, o + j * 5 + 3, none⟩) hbb).trans p3
        have q4 := (b4.cell (p := ⟨bb, o + j * 5 + 4, none⟩) hbb).trans p4
        have HC := Lib.hid (h4.step x (hok.on b4))
        have HC2 := Lib.hid (h4.swap.step x (hok.on b4))
        clear p0 p1 p2 p3 p4 h4 hok
        have e2 : Int.tmod (j : Int) 2 = ((j % 2 : Nat) : Int) := by rw [Int.tmod_eq_emod_of_nonneg (by omega)]; omega
        by_cases hp : j % 2 = 1
        · rw [hp] at e2
          go_wp2_with fail
          refine HC2.out.mono ?_
          rintro e w5 ⟨rfl, h5, hb5⟩
          have b5 := b4.trans hb5
          have h6 := h5.swap
          clear hb5 b4 HC HC2 h5 q0 q1 q2 q3 q4
          go_wp2_with fail
          exact ⟨⟨j + 1, by omega, by go_num, h6, b5⟩, by simp [intOf]; omega⟩
        · have hp0 : j % 2 = 0 := by omega
          rw [hp0] at e2
          go_wp2_with fail
          refine HC.out.mono ?_
          rintro e w5 ⟨rfl, h5, hb5⟩
          have b5 := b4.trans hb5
          clear hb5 b4 HC HC2 q0 q1 q2 q3 q4
          go_wp2_with fail
          exact ⟨⟨j + 1, by omega, by go_num, h5, b5⟩, by simp [intOf]; omega⟩
      · skip
        have HD := Lib.hid h4.alike
        have hB4 := h4.size
        clear h4
        go_wp2_with fail
        refine HD.out.mono ?_
        rintro e w5 ⟨rfl, h5, hb5⟩
        have b5 := bthen b4 hb5 hB4
        have HD2 := Lib.hid h5.swap.alike
        have hB5 := h5.size
        clear h5 hb5 HD b4
        go_wp2_with fail
        refine HD2.out.mono ?_
        rintro e w6 ⟨rfl, h6, hb6⟩
        have b6 := bthen b5 hb6 hB5
        have hB6 := h6.size
        clear h6 hb6 HD2 b5
        go_wp2_with fail
        refine (works_any w6).mono ?_
        rintro e w7 ⟨rfl, hb7⟩
        have b7 := bthen b6 hb7 hB6
        go_wp2_with fail
        go_ret
        exact ⟨rfl, b7⟩
    · skip
      have HD := Lib.hid h4.alike
      have hB4 := h4.size
      clear h4
      go_wp2_with fail
      refine HD.out.mono ?_
      rintro e w5 ⟨rfl, h5, hb5⟩
      have b5 := bthen b4 hb5 hB4
      have HD2 := Lib.hid h5.swap.alike
      have hB5 := h5.size
      clear h5 hb5 HD b4
      go_wp2_with fail
      refine HD2.out.mono ?_
      rintro e w6 ⟨rfl, h6, hb6⟩
      have b6 := bthen b5 hb6 hB5
      have hB6 := h6.size
      clear h6 hb6 HD2 b5
      go_wp2_with fail
      refine (works_any w6).mono ?_
      rintro e w7 ⟨rfl, hb7⟩
      have b7 := bthen b6 hb7 hB6
      go_wp2_with fail
      go_ret
      exact ⟨rfl, b7⟩
end Go.Proofs.Ytlbkmhlpgpfafaa
