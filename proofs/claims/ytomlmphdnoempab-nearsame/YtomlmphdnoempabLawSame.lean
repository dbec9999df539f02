/-
  NearSame returns true.
-/
import Derived.Test.YtomlmphdnoempabWks
namespace Go.Proofs.Ytomlmphdnoempab
open Go.RowKit
theorem near_zero2 {N : Int} {l : List A} {s t : Int} (h : nearE N l [s, t] = 0) (hw : ∀ x ∈ l, 0 ≤ x.w ∧ x.w < 4294967296) : ∃ n s' t' : Nat, N = n ∧ s = s' ∧ t = t' ∧ s' < n ∧ t' < n ∧ RG n l ∧ nearE N l [s] = 0 ∧ nearE N l [t] = 0 := by
  have h1 := nearE_chk h
  obtain ⟨n, rfl, g⟩ := rg_of h1 hw
  unfold nearE at h
  rw [if_pos h1] at h
  by_cases e : okV n s = true
  · by_cases e2 : okV n t = true
    · have := okV_t e
      have := okV_t e2
      exact ⟨n, s.toNat, t.toNat, rfl, by omega, by omega, by omega, by omega, g, by unfold nearE; rw [if_pos h1]; simp [e], by unfold nearE; rw [if_pos h1]; simp [e2]⟩
    · simp [e2] at h
  · simp [e] at h
set_option maxHeartbeats 1600000 in
set_option maxRecDepth 100000 in
theorem law_same (N : Int) (a : Option Addr) (l : List A) (cap : Nat) (s t : Int) (w : World) (hlen : l.length * 24 ≤ 140737488351232) (hn : a = none → l = [] ∧ cap = 0) (hr : Arcs w a l) (hw : ∀ x ∈ l, 0 ≤ x.w ∧ x.w < 4294967296) :
    Calls Try.prog 3 #[.agg #[.int .i64 N, .slice a l.length cap], .int .i64 s, .int .i64 t] w fun e w' => e = .returned (.bool true) ∧ Below w.heap.size w w' := by
  have hl : l.length ≤ 9223372036854775807 := by omega
  have hb0 : Below w.heap.size w (w.alloc (.cells #[.int .i64 N, .slice a l.length cap] 24)) := (Below.refl _ _).alloc (Nat.le_refl _) _
  have hg := heap_top w (.cells #[.int .i64 N, .slice a l.length cap] 24)
  have HR := Lib.hid hr
  have HW := Lib.hid hw
  have HNN := Lib.hid hn
  have HWK := Lib.hid (works_any (w.alloc (.cells #[.int .i64 N, .slice a l.length cap] 24)))
  clear hr hw hn
  by_cases hE : nearE N l [s, t] = 0
  · obtain ⟨n, s, t, rfl, rfl, rfl, hs, ht, g, hE1, _⟩ := near_zero2 hE HW.out
    have HG := Lib.hid g
    have HE := Lib.hid hE
    have HE1 := Lib.hid hE1
    clear g hE hE1
    go_enter Try.func3, Try.ntmps3
    go_wp2_with fail
    refine HWK.out.mono ?_
    rintro e w1 ⟨rfl, hb1⟩
    have b1 : Below w.heap.size w w1 := hb0.trans (hb1.mono hb0.size)
    have hg1 := (hb1.block _ (lt_of_block hg)).trans hg
    obtain ⟨⟨g0, g1⟩, -⟩ := two_cells hg1
    have HBT := Lib.hid (between_ok n a l cap s t w1 HG.out hs ht HE.out HNN.out (HR.out.on b1))
    clear hg hb0 hb1 HWK
    go_wp2_with fail
    refine HBT.out.mono ?_
    rintro e w2 ⟨d, rfl, hit, hb2⟩
    have HIT := Lib.hid hit
    have b2 : Below w.heap.size w w2 := b1.trans (hb2.mono b1.size)
    have hg2 := (hb2.block _ (lt_of_block hg1)).trans hg1
    clear g0 g1 HBT hit hg1
    obtain ⟨⟨g0, g1⟩, -⟩ := two_cells hg2
    have HWA := Lib.hid (walk_ok n a l cap s t w2 HG.out hs ht HE.out (HR.out.on b2))
    go_wp2_with fail
    refine HWA.out.mono ?_
    rintro e w3 ⟨v, d', rfl, hit', hb3, _⟩
    obtain rfl := hit'.unique HIT.out
    have b3 : Below w.heap.size w w3 := b2.trans (hb3.mono b2.size)
    have hg3 := (hb3.block _ (lt_of_block hg2)).trans hg2
    clear g0 g1 HWA hit' hg2
    obtain ⟨⟨g0, g1⟩, -⟩ := two_cells hg3
    have HFR := Lib.hid (from_ok n a l cap s w3 HG.out hs HE1.out (HR.out.on b3))
    go_wp2_with fail
    refine HFR.out.mono ?_
    rintro e w4 ⟨bf, rfl, F, tf, hisd, _, hbf, hb4⟩
    have hF : F t = d' := (hisd.at t).unique HIT.out
    have c4 := tf.cell ht
    rw [hF] at c4
    have ht' : (t : Int) < n := by omega
    have b4 : Below w.heap.size w w4 := b3.trans (hb4.mono b3.size)
    clear g0 g1 HFR hF hg3
    go_wp2_with fail
    go_ret
    exact ⟨rfl, b4⟩
  · have hN : (nearE N l [s, t] == 0) = false := beq_eq_false_iff_ne.2 hE
    have HE := Lib.hid hE
    obtain ⟨E, HEE⟩ := named (nearE N l [s, t])
    rw [HEE.out] at hN
    clear hE
    go_enter Try.func3, Try.ntmps3
    go_wp2_with fail
    refine HWK.out.mono ?_
    rintro e w1 ⟨rfl, hb1⟩
    have b1 : Below w.heap.size w w1 := hb0.trans (hb1.mono hb0.size)
    have hg1 := (hb1.block _ (lt_of_block hg)).trans hg
    obtain ⟨⟨g0, g1⟩, -⟩ := two_cells hg1
    have HBT := Lib.hid (between_no N a l cap s t w1 hl HE.out (HR.out.on b1))
    rw [HEE.out] at HBT
    clear hg hb0 hb1 HWK
    go_wp2_with fail
    refine HBT.out.mono ?_
    rintro e w2 ⟨rfl, hb2⟩
    have b2 : Below w.heap.size w w2 := b1.trans (hb2.mono b1.size)
    have hg2 := (hb2.block _ (lt_of_block hg1)).trans hg1
    clear g0 g1 HBT
    obtain ⟨⟨g0, g1⟩, -⟩ := two_cells hg2
    have HWA := Lib.hid (walk_no N a l cap s t w2 hl HE.out (HR.out.on b2))
    rw [HEE.out] at HWA
    go_wp2_with fail
    refine HWA.out.mono ?_
    rintro e w3 ⟨rfl, hb3⟩
    go_wp2_with fail
    go_ret
    exact ⟨rfl, b2.trans (hb3.mono b2.size)⟩
end Go.Proofs.Ytomlmphdnoempab
