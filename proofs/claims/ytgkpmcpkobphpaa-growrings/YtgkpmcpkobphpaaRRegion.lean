/-
  Contracts of flyoverref07.Region and Core.
-/
import Derived.Test.YtgkpmcpkobphpaaRArC
import Derived.Test.YtgkpmcpkobphpaaRChk
import Derived.Test.YtgkpmcpkobphpaaCore
namespace Go.Proofs.Ytgkpmcpkobphpaa
open Go.RowKit
theorem whole_pos {E : List Ed} {M N : Nat} {S : Nat → Bool} {c : Nat} : 0 < (whole E M N S c).length := by
  have h := gro_pre (E := E) (M := M) (N := N) (S := S) (c := c) (k := 0) N
  rw [Nat.zero_add] at h
  have := h.length_le
  unfold whole
  simp [gro] at this
  omega
set_option maxHeartbeats 1600000 in
theorem rregion_any (N c m : Int) (a : Option Addr) (l : List A) (cap : Nat) (w : World) (hl : l.length ≤ 9223372036854775807) (hr : Arcs w a l) :
    Calls Try.prog 12 #[.agg #[.int .i64 N, .slice a l.length cap], .int .i64 c, .int .i64 m] w fun e w' => ∃ v xs, e = .returned (.tuple #[v, .int .i64 (gchk N c m l)]) ∧ w'.ownsRow w.heap.size 3 1 v xs.length (cellsI (ints xs)) ∧ xs = (if gchk N c m l = 0 then reg N.toNat l c.toNat m.toNat else []) ∧ Below w.heap.size w w' := by
  have hb0 : Below w.heap.size w (w.alloc (.cells #[.int .i64 N, .slice a l.length cap] 24)) := (Below.refl _ _).alloc (Nat.le_refl _) _
  have hg := heap_top w (.cells #[.int .i64 N, .slice a l.length cap] 24)
  have hr2 := hr.on hb0
  have hsz : w.heap.size ≤ (w.alloc (.cells #[.int .i64 N, .slice a l.length cap] 24)).heap.size := hb0.size
  obtain ⟨E, HE⟩ := named (gchk N c m l)
  obtain ⟨C, HC⟩ := named (chkE N l)
  obtain ⟨AT, HAT⟩ := named (chkAt N l)
  have HAR := Lib.hid hr
  rw [HE.out]
  generalize hp : w.heap.size = p at *
  go_enter Try.func12, Try.ntmps12
  go_wp2_with fail
  generalize hW : w.alloc (.cells #[.int .i64 N, .slice a l.length cap] 24) = W at *
  refine (rcheck_any N a l cap W hl hr2).mono ?_
  rintro e w1 ⟨rfl, hb1⟩
  rw [HC.out, HAT.out]
  have hg1 := (hb1.block _ (lt_of_block hg)).trans hg
  have HB1 : Hid (Below p w w1) := hb0.trans (hb1.mono hsz)
  obtain ⟨⟨g0, g1⟩, _⟩ := two_cells hg1
  clear hb1 hg hb0 hr2 hW hsz
  by_cases he : C = 0
  · have he2 : (C != 0) = false := by simp [he]
    have hE1 : E = if ¬ (0 ≤ c ∧ c < N) then 5 else if m < 1 ∨ 1024 < m then 1 else 0 := by
      rw [← HE.out]; unfold gchk; rw [if_neg (by rw [HC.out, he]; simp)]
    obtain ⟨hN1, hN2, hlb, hpo⟩ := chk_zero (HC.out.trans he)
    by_cases hc0 : c < 0
    · rw [if_pos (by omega)] at hE1
      subst hE1
      go_wp2_with fail
      go_ret2
      exact ⟨.slice none 0 0, rfl, [], World.ownsRow_nil _ _ _ _, by simp, HB1.out⟩
    · by_cases hcN : c < N
      · rw [if_neg (by omega)] at hE1
        by_cases hm1 : m < 1
        · rw [if_pos (.inl hm1)] at hE1
          subst hE1
          go_wp2_with fail
          go_ret2
          exact ⟨.slice none 0 0, rfl, [], World.ownsRow_nil _ _ _ _, by simp, HB1.out⟩
        · by_cases hm2 : 1024 < m
          · rw [if_pos (.inr hm2)] at hE1
            subst hE1
            go_wp2_with fail
            go_ret2
            exact ⟨.slice none 0 0, rfl, [], World.ownsRow_nil _ _ _ _, by simp, HB1.out⟩
          · rw [if_neg (by omega)] at hE1
            subst hE1
            obtain ⟨n, rfl⟩ : ∃ n : Nat, N = n := ⟨N.toNat, by omega⟩
            obtain ⟨v, rfl⟩ : ∃ v : Nat, c = v := ⟨c.toNat, by omega⟩
            obtain ⟨t, rfl⟩ : ∃ t : Nat, m = t := ⟨m.toNat, by omega⟩
            have hvn : v < n := by omega
            have HPO := Lib.hid hpo
            have HA1 : Hid (Arcs w1 a l) := HAR.out.on (by rw [hp]; exact HB1.out)
            clear hpo
            go_wp2_with fail
            refine (raround_any n v a l cap w1 (by omega) hlb hvn HPO.out HA1.out).mono ?_
            rintro e w2 ⟨v2, rfl, hown, hb2⟩
            obtain ⟨Wh, HWH⟩ := named (whole (edl l) (2 * l.length) n (fun _ => false) v)
            have hwp : 0 < Wh.length := by rw [← HWH.out]; exact whole_pos
            have hwn : Wh.length ≤ n := by rw [← HWH.out]; exact gro_short hvn n
            rw [HWH.out] at hown
            obtain ⟨av, cv, rfl⟩ := own_slice hown
            have hcap : Wh.length ≤ cv := by
              rcases hown.2 with ⟨e, h0⟩ | ⟨g, c', cur, e, _, _, h4, _⟩
              · omega
              · injection e with e1 e2 e3; subst e3; exact h4
            have hcm : cv ≤ 9223372036854775807 := by
              rcases hown.2 with ⟨e, h0⟩ | ⟨g, c', cur, e, _, _, h4, h5, _⟩
              · omega
              · injection e with e1 e2 e3; subst e3; exact h5
            have HB2 : Hid (Below p w w2) := HB1.out.trans (hb2.mono (hp ▸ HB1.out.size))
            obtain ⟨q, hq⟩ : ∃ q, Hid (min t Wh.length = q) := ⟨_, rfl⟩
            have hq1 : q ≤ Wh.length := by rw [← hq.out]; omega
            have hmq : Hid ((min (t : Int) (Wh.length : Int)).toNat = q) := by show _ = _; rw [← hq.out]; omega
            have HTK : Hid (w2.ownsRow p 3 1 (.slice av q cv) q (cellsI (ints (Wh.take q)))) := by
              have := own_take (own_base hown (hp ▸ HB1.out.size)) hq1 (.inl hwp)
              rwa [cells_take] at this
            have HREG : Hid (Wh.take q = reg n l v t) := by
              show _ = _
              unfold reg
              rw [HWH.out, ← hq.out]
              rw [← List.take_take, List.take_length]
            clear hown hb2
            go_wp2_with fail
            go_ret2
            refine ⟨.slice av q cv, by rw [← hmq.out]; rfl, Wh.take q, ?_, HREG.out, HB2.out⟩
            rw [List.length_take, Nat.min_eq_left hq1]
            exact HTK.out
      · rw [if_pos (by omega)] at hE1
        subst hE1
        go_wp2_with fail
        go_ret2
        exact ⟨.slice none 0 0, rfl, [], World.ownsRow_nil _ _ _ _, by simp, HB1.out⟩
  · have he2 : (C != 0) = true := by simp [he]
    have h1 : E = C := by rw [← HE.out]; unfold gchk; rw [if_pos (by rw [HC.out]; exact he), HC.out]
    subst h1
    go_wp2_with fail
    go_ret2
    exact ⟨.slice none 0 0, rfl, [], World.ownsRow_nil _ _ _ _, by simp, HB1.out⟩
set_option maxHeartbeats 800000 in
theorem rcore_any (N c m : Int) (a : Option Addr) (l : List A) (cap : Nat) (w : World) (hl : l.length ≤ 9223372036854775807) (hr : Arcs w a l) :
    Calls Try.prog 14 #[.agg #[.int .i64 N, .slice a l.length cap], .int .i64 c, .int .i64 m] w fun e w' => ∃ v xs, e = .returned (.tuple #[v, .int .i64 (gchk N c m l)]) ∧ w'.ownsRow w.heap.size 3 1 v xs.length (cellsI (ints xs)) ∧ xs = (if gchk N c m l = 0 then core N.toNat l c.toNat m.toNat else []) ∧ Below w.heap.size w w' := by
  have hb0 : Below w.heap.size w (w.alloc (.cells #[.int .i64 N, .slice a l.length cap] 24)) := (Below.refl _ _).alloc (Nat.le_refl _) _
  have hr2 := hr.on hb0
  have hsz : w.heap.size ≤ (w.alloc (.cells #[.int .i64 N, .slice a l.length cap] 24)).heap.size := hb0.size
  obtain ⟨E, HE⟩ := named (gchk N c m l)
  rw [HE.out]
  generalize hp : w.heap.size = p at *
  go_enter Try.func14, Try.ntmps14
  go_wp2_with fail
  generalize hW : w.alloc (.cells #[.int .i64 N, .slice a l.length cap] 24) = W at *
  refine (rregion_any N c m a l cap W hl hr2).mono ?_
  rintro e w1 ⟨v, xs, rfl, hown, hxs, hb1⟩
  rw [HE.out] at hxs ⊢
  have HB1 : Hid (Below p w w1) := hb0.trans (hb1.mono hsz)
  have hown2 := own_base hown hsz
  obtain ⟨av, cv, rfl⟩ := own_slice hown
  have hcap : xs.length ≤ cv := by
    rcases hown.2 with ⟨e, h0⟩ | ⟨g, c', cur, e, _, _, h4, _⟩
    · injection e with e1 e2 e3; omega
    · injection e with e1 e2 e3; subst e3; exact h4
  have hcm : cv ≤ 9223372036854775807 := by
    rcases hown.2 with ⟨e, h0⟩ | ⟨g, c', cur, e, _, _, h4, h5, _⟩
    · injection e with e1 e2 e3; omega
    · injection e with e1 e2 e3; subst e3; exact h5
  have HOW := Lib.hid hown2
  clear hown hown2 hb1 hb0 hr2
  by_cases he : E = 0
  · subst he
    obtain ⟨_, _, hm1, hm2⟩ := gchk_zero HE.out
    have hxl : xs.length ≤ 1024 := by
      rw [if_pos rfl] at hxs
      rw [hxs]
      exact Nat.le_trans (reg_len _ _ _ _) (by omega)
    have hq : ((xs.length + 3) / 4 : Nat) ≤ xs.length := by omega
    have hx0 : 0 < xs.length ∨ (xs.length + 3) / 4 = 0 := by omega
    have HT : Hid (w1.ownsRow p 3 1 (.slice av ((xs.length + 3) / 4) cv) ((xs.length + 3) / 4) (cellsI (ints (xs.take ((xs.length + 3) / 4))))) := by
      have := own_take HOW.out hq hx0
      rwa [cells_take] at this
    have e1 : ((xs.length : Int) + 3) / 4 = (((xs.length + 3) / 4 : Nat) : Int) := by omega
    have HX := Lib.hid hxs
    clear hxs
    generalize hqq : (xs.length + 3) / 4 = qq at *
    go_wp2_with fail
    go_ret2
    refine ⟨.slice av qq cv, rfl, xs.take qq, ?_, ?_, HB1.out⟩
    · rw [List.length_take, Nat.min_eq_left hq]; exact HT.out
    · have hx := HX.out
      simp only [if_true] at hx
      unfold core
      rw [← hx, hqq]
  · have he2 : (E != 0) = true := by simp [he]
    go_wp2_with fail
    go_ret2
    exact ⟨.slice none 0 0, rfl, [], World.ownsRow_nil _ _ _ _, by simp, HB1.out⟩
end Go.Proofs.Ytgkpmcpkobphpaa
