/-
  Contracts of the reference's Check and Wrong.
-/
import Derived.Test.YtcomkdjngchmkaaChk2
namespace Go.Proofs.Ytcomkdjngchmkaa
open Go.RowKit
set_option maxHeartbeats 1600000 in
set_option maxRecDepth 100000 in
theorem rcheck_any (N : Int) (a : Option Addr) (l : List A) (cap : Nat) (w : World) (hl : l.length ≤ 9223372036854775807) (hr : Arcs w a l) :
    Calls Try.prog 13 #[.agg #[.int .i64 N, .slice a l.length cap]] w fun e w' => e = .returned (.tuple #[.int .i64 (chkAt N l), .int .i64 (chkE N l)]) ∧ Below w.heap.size w w' := by
  by_cases h1 : N < 1
  · rw [(chk_range (l := l) (Or.inl h1)).1, (chk_range (l := l) (Or.inl h1)).2]
    go_enter Try.func13, Try.ntmps13
    go_wp2_with fail
    go_ret2
    exact ⟨rfl, (Below.refl _ _).alloc (Nat.le_refl _) _⟩
  by_cases h2 : 1024 < N
  · rw [(chk_range (l := l) (Or.inr h2)).1, (chk_range (l := l) (Or.inr h2)).2]
    go_enter Try.func13, Try.ntmps13
    go_wp2_with fail
    go_ret2
    exact ⟨rfl, (Below.refl _ _).alloc (Nat.le_refl _) _⟩
  have hN : ¬ (N < 1 ∨ 1024 < N) := by omega
  by_cases h3 : 16384 < l.length
  · have h3' : (16384 : Int) < l.length := by omega
    rw [(chk_long hN h3).1, (chk_long hN h3).2]
    clear hN
    go_enter Try.func13, Try.ntmps13
    go_wp2_with fail
    go_ret2
    exact ⟨rfl, (Below.refl _ _).alloc (Nat.le_refl _) _⟩
  have h3' : ¬ (16384 : Int) < l.length := by omega
  have HN := Lib.hid hN
  clear hN
  obtain ⟨E, HE⟩ := named (chkE N l)
  obtain ⟨T, HAT⟩ := named (chkAt N l)
  rw [HE.out, HAT.out]
  have hb0 : Below w.heap.size w (w.alloc (.cells #[.int .i64 N, .slice a l.length cap] 24)) := (Below.refl _ _).alloc (Nat.le_refl _) _
  obtain ⟨b, o, hab⟩ : ∃ b o, 0 < l.length → a = some ⟨b, o, none⟩ ∧ b < w.heap.size ∧ ∀ j, j < l.length → (l.getD j A.zero).at w b (o + j * 3) := by
    rcases hr with rfl | ⟨b, o, h⟩
    · exact ⟨0, 0, fun h => absurd h (by simp)⟩
    · exact ⟨b, o, fun _ => h⟩
  go_enter Try.func13, Try.ntmps13
  go_wp2_with fail
  go_loopw [4] (fun i wr => ∃ k : Nat, k ≤ l.length ∧ i = .int .i64 k ∧ Hid ((l.take k).all (okA N) = true) ∧ wr.heap[w.heap.size]? = some (.cells #[.int .i64 N, .slice a l.length cap] 24) ∧ Below w.heap.size w wr) (fun i _ => l.length - (intOf i).toNat)
  case atStart => exact ⟨0, Nat.zero_le _, rfl, by show _ = _; simp, heap_top w _, hb0⟩
  case round =>
    obtain ⟨k, hk, rfl, hall, hg, hb⟩ := hrel
    obtain ⟨⟨g0, g1⟩, gf0, gf1⟩ := two_cells hg
    have hsz : w.heap.size < wr.heap.size := lt_of_block hg
    by_cases hlt : k < l.length
    · obtain ⟨rfl, hbl, hat⟩ := hab (by omega)
      obtain ⟨c0, c1, c2⟩ := (hat k hlt).on hb
      have HT := Lib.hid (fun (h : okA N (l.getD k A.zero) = true) => all_take hlt hall.out h)
      have HF := Lib.hid (fun (h : okA N (l.getD k A.zero) = false) => find_at hlt hall.out h)
      generalize l.getD k A.zero = x at *
      have hg2 := (Below.heap_alloc wr (.cells #[.int .i64 x.f, .int .i64 x.t, .int .u32 x.w] 52) w.heap.size hsz).trans hg
      have hb2 : Below w.heap.size w (wr.alloc (.cells #[.int .i64 x.f, .int .i64 x.t, .int .u32 x.w] 52)) := hb.alloc (by omega) _
      obtain ⟨⟨m0, m1⟩, mf0, mf1⟩ := two_cells hg2
      have hk2 : (k : Int) ≤ 16384 := by omega
      by_cases hA : okA N x = true
      · obtain ⟨h5, h6⟩ := okA_t hA
        obtain ⟨q1, q2⟩ := okV_t h5
        obtain ⟨q3, q4⟩ := okV_t h6
        have q1' : ¬ x.f < 0 := by omega
        have q2' : ¬ N ≤ x.f := by omega
        have q3' : ¬ x.t < 0 := by omega
        have q4' : ¬ N ≤ x.t := by omega
        have HT2 := Lib.hid (HT.out hA)
        clear hA h5 h6
        go_wp2_with fail
        exact ⟨⟨k + 1, by omega, by go_num, HT2, hg2, hb2⟩, by simp [intOf]; omega⟩
      · have hA' : okA N x = false := by simpa using hA
        have hE := chk_bad HN.out h3 (HF.out hA')
        rw [HE.out, HAT.out] at hE
        obtain ⟨rfl, rfl⟩ := hE
        have hbad : x.f < 0 ∨ N ≤ x.f ∨ x.t < 0 ∨ N ≤ x.t := by
          by_cases e1 : x.f < 0
          · exact .inl e1
          · by_cases e2 : N ≤ x.f
            · exact .inr (.inl e2)
            · by_cases e3 : x.t < 0
              · exact .inr (.inr (.inl e3))
              · by_cases e4 : N ≤ x.t
                · exact .inr (.inr (.inr e4))
                · exfalso
                  apply hA
                  simp [okA, okV]
                  omega
        clear hA hA'
        by_cases e1 : x.f < 0
        · go_wp2_with fail
          go_ret2
          exact ⟨rfl, hb2⟩
        · by_cases e2 : N ≤ x.f
          · go_wp2_with fail
            go_ret2
            exact ⟨rfl, hb2⟩
          · by_cases e3 : x.t < 0
            · go_wp2_with fail
              go_ret2
              exact ⟨rfl, hb2⟩
            · have e4 : N ≤ x.t := by omega
              go_wp2_with fail
              go_ret2
              exact ⟨rfl, hb2⟩
    · have hE := chk_ok HN.out h3 (by have := hall.out; rw [List.take_of_length_le (by omega)] at this; exact this)
      rw [HE.out, HAT.out] at hE
      obtain ⟨rfl, rfl⟩ := hE
      have hge : ¬ (k : Int) < l.length := by omega
      go_wp2_with fail
      go_ret2
      exact ⟨rfl, hb⟩
set_option maxHeartbeats 800000 in
theorem rwrong_any (N : Int) (a : Option Addr) (l : List A) (cap : Nat) (w : World) (hl : l.length ≤ 9223372036854775807) (hr : Arcs w a l) (s t : Int) :
    Calls Try.prog 22 #[.agg #[.int .i64 N, .slice a l.length cap], .int .i64 s, .int .i64 t] w fun e w' => e = .returned (.int .i64 (flE N l s t)) ∧ Below w.heap.size w w' := by
  have hb0 : Below w.heap.size w (w.alloc (.cells #[.int .i64 N, .slice a l.length cap] 24)) := (Below.refl _ _).alloc (Nat.le_refl _) _
  have HC := Lib.hid (rcheck_any N a l cap _ hl (hr.on hb0))
  have hg := heap_top w (.cells #[.int .i64 N, .slice a l.length cap] 24)
  obtain ⟨R, HR⟩ := named (flE N l s t)
  rw [HR.out]
  have HFE := HR
  unfold flE at HFE
  obtain ⟨E, HE⟩ := named (chkE N l)
  obtain ⟨T, HT⟩ := named (chkAt N l)
  rw [HE.out, HT.out] at HC
  rw [HE.out] at HFE
  have HB0 := Lib.hid hb0
  have HG := Lib.hid hg
  clear hb0 hg HR
  go_enter Try.func22, Try.ntmps22
  go_wp2_with fail
  refine HC.out.mono ?_
  rintro e w1 ⟨rfl, hb1⟩
  have hg1 := (hb1.block w.heap.size (by simp)).trans HG.out
  have hb2 : Below w.heap.size w w1 := HB0.out.trans (hb1.mono (by simp))
  obtain ⟨⟨g0, g1⟩, gf0, gf1⟩ := two_cells hg1
  have HB2 := Lib.hid hb2
  clear hb1 hb2
  by_cases hE : E = 0
  · have hE2 : (E != 0) = false := by rw [hE]; rfl
    have hE3 : (E == 0) = true := by rw [hE]; rfl
    have hR1 := HFE.out
    rw [if_pos hE] at hR1
    clear hE HFE
    by_cases h5 : okV N s = true
    · rw [if_pos h5] at hR1
      obtain ⟨q1, q2⟩ := okV_t h5
      have q1' : ¬ s < 0 := by omega
      have q2' : ¬ N ≤ s := by omega
      by_cases h6 : okV N t = true
      · rw [if_pos h6] at hR1
        obtain ⟨q3, q4⟩ := okV_t h6
        have q3' : ¬ t < 0 := by omega
        have q4' : ¬ N ≤ t := by omega
        clear h5 h6
        by_cases h7 : s = t
        · rw [if_pos h7] at hR1
          have h7' : (s == t) = true := by rw [h7]; simp
          subst hR1
          clear h7
          go_wp2_with fail
          go_ret
          exact ⟨rfl, HB2.out⟩
        · rw [if_neg h7] at hR1
          have h7' : (s == t) = false := by rw [beq_eq_false_iff_ne]; exact h7
          subst hR1
          clear h7
          go_wp2_with fail
          go_ret
          exact ⟨rfl, HB2.out⟩
      · rw [if_neg h6] at hR1
        subst hR1
        by_cases e3 : t < 0
        · clear h5 h6
          go_wp2_with fail
          go_ret
          exact ⟨rfl, HB2.out⟩
        · have e4 : N ≤ t := by
            by_cases e : N ≤ t
            · exact e
            · exfalso; apply h6; simp [okV]; omega
          clear h5 h6
          go_wp2_with fail
          go_ret
          exact ⟨rfl, HB2.out⟩
    · rw [if_neg h5] at hR1
      subst hR1
      by_cases e3 : s < 0
      · clear h5
        go_wp2_with fail
        go_ret
        exact ⟨rfl, HB2.out⟩
      · have e4 : N ≤ s := by
          by_cases e : N ≤ s
          · exact e
          · exfalso; apply h5; simp [okV]; omega
        clear h5
        go_wp2_with fail
        go_ret
        exact ⟨rfl, HB2.out⟩
  · have hE2 : (E != 0) = true := by simpa using hE
    have hE3 : (E == 0) = false := by rw [beq_eq_false_iff_ne]; exact hE
    have hR1 := HFE.out
    rw [if_neg hE] at hR1
    subst hR1
    go_wp2_with fail
    go_ret
    exact ⟨rfl, HB2.out⟩
end Go.Proofs.Ytcomkdjngchmkaa
