/-
  FilesPlays answers true.
-/
import Derived.Test.YtlbkmhlpgpfafaaPr
namespace Go.Proofs.Ytlbkmhlpgpfafaa
open Go.RowKit Go.Maps Go.Joins
set_option maxRecDepth 100000 in
set_option maxHeartbeats 6400000 in
theorem law_plays (a : Option Addr) (l : List Ac) (cap : Nat) (w : World) (hl : l.length ≤ 140737488351232) (hr : B.Acs w.heap.size w a l) :
    Calls Try.prog 3 #[.slice a l.length cap] w fun e w' => e = .returned (.bool true) ∧ Below w.heap.size w w' := by
  have HACS := Lib.hid hr
  obtain ⟨N, HN⟩ := named l.length
  rw [HN.out]
  have hN : N ≤ 140737488351232 := by rw [← HN.out]; exact hl
  clear hr hl
  go_enter Try.func3, Try.ntmps3
  go_wp2_with fail
  refine (New_any w).mono ?_
  rintro e w0 ⟨d, ow, rfl, h0, ho0, hb0⟩
  go_wp2_with fail
  refine (RNew_any w0).mono ?_
  rintro e w1 ⟨r, D, rfl, h1, hD1, hb1⟩
  have H1 := Lib.hid (Pr.first h0 ho0 hb0 h1 hD1 hb1)
  have b1 := bthen hb0 hb1 hb0.size
  clear h0 h1 hb0 hb1 ho0 hD1
  go_wp2_with fail
  refine (names17_any w1).mono ?_
  rintro e w2 ⟨rfl, rfl⟩
  go_wp2_with fail
  go_loopw [5] (fun i wr => ∃ (j : Nat) (S : PS) (E : Nat → Prop), j ≤ N ∧ i = .int .i64 j ∧ Pr w.heap.size wr d r S E ∧ Below w.heap.size w wr) (fun i _ => N - (intOf i).toNat)
  case atStart => exact ⟨0, S0, _, Nat.zero_le _, rfl, H1.out, b1⟩
  case round =>
    clear b1
    obtain ⟨j, S, E, hj, rfl, h4, b4⟩ := hrel
    by_cases hlt : j < N
    · by_cases hh : j < 200
      · have hjl : j < l.length := by rw [HN.out]; exact hlt
        obtain ⟨bb, o, rfl, hbb, hat⟩ := HACS.out (by omega)
        obtain ⟨p0, p1, p2, p3, p4, hok⟩ := hat j hjl
        clear hat
        generalize l[j] = x at *
        have q0 := (b4.cell (p := ⟨bb, o + j * 5, none⟩) hbb).trans p0
        have q1 := (b4.cell (p := ⟨bb, o + j * 5 + 1, none⟩) hbb).trans p1
        have q2 := (b4.cell (p := ⟨bb, o + j * 5 + 2, none⟩) hbb).trans p2
        have q3 := (b4.cell (p := ⟨bb, o + j * 5 + 3, none⟩) hbb).trans p3
        have q4 := (b4.cell (p := ⟨bb, o + j * 5 + 4, none⟩) hbb).trans p4
        have HC := Lib.hid (h4.step x (hok.on b4))
        clear p0 p1 p2 p3 p4 h4 hok
        go_wp2_with fail
        refine HC.out.mono ?_
        rintro e w5 ⟨rfl, S', E', h5, _, _, hb5⟩
        have b5 := b4.trans hb5
        have HD := Lib.hid h5.alike
        have hB5 := h5.1
        clear hb5 b4 HC h5 q0 q1 q2 q3 q4
        go_wp2_with fail
        refine HD.out.mono ?_
        rintro e w6 ⟨rfl, h6, hb6⟩
        have b6 := bthen b5 hb6 hB5
        clear hb6 b5 HD
        go_wp2_with fail
        exact ⟨⟨j + 1, _, _, by omega, by go_num, h6, b6⟩, by simp [intOf]; omega⟩
      · skip
        have hB4 := h4.1
        go_wp2_with fail
        refine (works_any wr).mono ?_
        rintro e w5 ⟨rfl, hb5⟩
        have b5 := bthen b4 hb5 hB4
        go_wp2_with fail
        go_ret
        exact ⟨rfl, b5⟩
    · skip
      have hB4 := h4.1
      go_wp2_with fail
      refine (works_any wr).mono ?_
      rintro e w5 ⟨rfl, hb5⟩
      have b5 := bthen b4 hb5 hB4
      go_wp2_with fail
      go_ret
      exact ⟨rfl, b5⟩
end Go.Proofs.Ytlbkmhlpgpfafaa
