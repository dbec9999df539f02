/-
  nest.look at any nest; lookAt, lookInto.
-/
import Derived.Test.YtpmjbeiclmllmaaNsG
namespace Go.Proofs.Ytpmjbeiclmllmaa
open Go.RowKit
theorem top2 (w : World) (o0 o1 : Obj) : ((w.alloc o0).alloc o1).heap[w.heap.size]? = some o0 ∧ ((w.alloc o0).alloc o1).heap[w.heap.size + 1]? = some o1 ∧ Below w.heap.size w ((w.alloc o0).alloc o1) ∧ ((w.alloc o0).alloc o1).heap.size = w.heap.size + 2 := by
  have s1 : (w.alloc o0).heap.size = w.heap.size + 1 := by simp
  refine ⟨?_, ?_, ?_, by simp⟩
  · exact (Below.heap_alloc _ _ _ (by omega)).trans (heap_top w o0)
  · exact s1 ▸ heap_top (w.alloc o0) o1
  · exact ((Below.refl _ _).alloc (Nat.le_refl _) _).alloc (by omega) _
theorem below_tr {p : Nat} {w w1 w2 : World} (h : Below p w w1) (hp : w.heap.size = p) (h2 : Below w1.heap.size w1 w2) : Below p w w2 := h.trans (h2.mono (hp ▸ h.size))
set_option maxRecDepth 100000 in
set_option maxHeartbeats 1600000 in
theorem look_any (N : Int) (a : Option Addr) (l : List A) (cap : Nat) (ba : Option Addr) (bs : List Int) (bc : Nat) (ca : Option Addr) (C : List Cl) (cc : Nat) (w : World) (hl : l.length ≤ 9223372036854775807) (hbl : bs.length ≤ 9223372036854775807) (hr : Arcs w a l) (hi : Ints w ba bs) (hR : Rws w ca C) :
    Calls Try.prog 89 #[.agg #[.int .i64 N, .slice a l.length cap], .agg #[.slice ba bs.length bc, .slice ca C.length cc]] w fun e w' =>
      (nsE N l bs (csl C) = 0 → ∃ g, (∃ c, e = .returned (.tuple #[.slice (some ⟨g, 0, none⟩) bs.length c, .int .i64 0, .int .i64 0])) ∧ Hid (LvR w' g C bs)) ∧ (nsE N l bs (csl C) ≠ 0 → e = .returned (.tuple #[.slice none 0 0, .int .i64 (nsW N l bs (csl C) : Nat), .int .i64 (nsE N l bs (csl C))])) ∧ Below w.heap.size w w' := by
  by_cases h1 : chkE N l = 0
  · by_cases h2 : ¬ (1 ≤ bs.length ∧ bs.length ≤ 5) ∨ C.length ≠ bs.length
    · have HNE : Hid (nsE N l bs (csl C) = 111) := by show _ = _; unfold nsE; rw [if_neg (by rw [h1]; simp), csl_len, if_pos h2]
      have HNW : Hid (nsW N l bs (csl C) = 0) := by show _ = _; unfold nsW; rw [if_neg (by rw [h1]; simp), csl_len, if_pos h2]
      rw [HNE.out, HNW.out]
      have hb0 : Below w.heap.size w ((w.alloc (.cells #[.int .i64 N, .slice a l.length cap] 24)).alloc (.cells #[.slice ba bs.length bc, .slice ca C.length cc] 28)) := (top2 w _ _).2.2.1
      have hg0 := (top2 w (.cells #[.int .i64 N, .slice a l.length cap] 24) (.cells #[.slice ba bs.length bc, .slice ca C.length cc] 28)).1
      have hg1 := (top2 w (.cells #[.int .i64 N, .slice a l.length cap] 24) (.cells #[.slice ba bs.length bc, .slice ca C.length cc] 28)).2.1
      have hsz := (top2 w (.cells #[.int .i64 N, .slice a l.length cap] 24) (.cells #[.slice ba bs.length bc, .slice ca C.length cc] 28)).2.2.2
      obtain ⟨⟨a0, a1⟩, _⟩ := two_cells hg0
      obtain ⟨⟨a2, a3⟩, _⟩ := two_cells hg1
      have HB0 := Lib.hid hb0
      have HCK := Lib.hid (check_any N a l cap _ hl (hr.on hb0))
      rw [h1] at HCK
      have HSM := Lib.hid (nsSome_any ba bs.length bc)
      clear hr hi hR hb0 h1
      generalize hp : w.heap.size = p at *
      go_enter Try.func89, Try.ntmps89
      go_wp2_with fail
      generalize hW : (w.alloc (.cells #[.int .i64 N, .slice a l.length cap] 24)).alloc (.cells #[.slice ba bs.length bc, .slice ca C.length cc] 28) = W at *
      clear hW
      refine HCK.out.mono ?_
      rintro e w1 ⟨rfl, hb1⟩
      have HB1 : Hid (Below p w w1) := HB0.out.trans (hb1.mono (by omega))
      have hk1 := (hb1.block (p + 1) (by omega)).trans hg1
      clear a0 a1 a2 a3 hb1 HCK hg0 hg1 HB0
      obtain ⟨⟨a2, a3⟩, _⟩ := two_cells hk1
      go_wp2_with fail
      refine (HSM.out w1 hbl).mono ?_
      rintro e w1' ⟨rfl, rfl⟩
      by_cases h3 : 1 ≤ bs.length ∧ bs.length ≤ 5
      · have h4 : C.length ≠ bs.length := h2.resolve_left (fun h => h h3)
        have hne : ((C.length : Int) != (bs.length : Int)) = true := by simp; omega
        have hne2 : ¬ (C.length : Int) = bs.length := by omega
        rw [decide_eq_true h3]
        go_wp2_with fail
        go_ret3
        first | exact ⟨rfl, HB1.out⟩ | exact ⟨(fun h => absurd h (by decide)), (fun _ => rfl), HB1.out⟩ | exact ⟨(fun h => absurd h h1), (fun _ => rfl), HB1.out⟩
      · rw [decide_eq_false h3]
        go_wp2_with fail
        go_ret3
        first | exact ⟨rfl, HB1.out⟩ | exact ⟨(fun h => absurd h (by decide)), (fun _ => rfl), HB1.out⟩ | exact ⟨(fun h => absurd h h1), (fun _ => rfl), HB1.out⟩
    · have h3 : 1 ≤ bs.length ∧ bs.length ≤ 5 ∧ C.length = bs.length := by omega
      obtain ⟨h4, h5, h6⟩ := h3
      have e1 : nsE N l bs (csl C) = (lkE N bs (csl C) 0 0 []).2 := by unfold nsE; rw [if_neg (by rw [h1]; simp), csl_len, if_neg h2]
      have e2 : nsW N l bs (csl C) = (lkE N bs (csl C) 0 0 []).1 := by unfold nsW; rw [if_neg (by rw [h1]; simp), csl_len, if_neg h2]
      rw [e1, e2, h6]
      obtain ⟨n, rfl⟩ : ∃ n : Nat, N = n := ⟨N.toNat, by have := (chk_zero h1).1; omega⟩
      exact look_ok n a l cap ba bs bc ca C cc w h1 h4 h5 h6 hr hi hR
  · have HNE : Hid (nsE N l bs (csl C) = chkE N l) := by show _ = _; unfold nsE; rw [if_pos h1]
    have HNW : Hid (nsW N l bs (csl C) = 0) := by show _ = _; unfold nsW; rw [if_pos h1]
    rw [HNE.out, HNW.out]
    have hb0 : Below w.heap.size w ((w.alloc (.cells #[.int .i64 N, .slice a l.length cap] 24)).alloc (.cells #[.slice ba bs.length bc, .slice ca C.length cc] 28)) := (top2 w _ _).2.2.1
    have hg0 := (top2 w (.cells #[.int .i64 N, .slice a l.length cap] 24) (.cells #[.slice ba bs.length bc, .slice ca C.length cc] 28)).1
    have hg1 := (top2 w (.cells #[.int .i64 N, .slice a l.length cap] 24) (.cells #[.slice ba bs.length bc, .slice ca C.length cc] 28)).2.1
    have hsz := (top2 w (.cells #[.int .i64 N, .slice a l.length cap] 24) (.cells #[.slice ba bs.length bc, .slice ca C.length cc] 28)).2.2.2
    obtain ⟨⟨a0, a1⟩, _⟩ := two_cells hg0
    obtain ⟨⟨a2, a3⟩, _⟩ := two_cells hg1
    have HB0 := Lib.hid hb0
    have HCK := Lib.hid (check_any N a l cap _ hl (hr.on hb0))
    obtain ⟨E, HE⟩ := named (chkE N l)
    rw [HE.out] at HCK h1 ⊢
    have e1 : (E != 0) = true := by simpa using h1
    clear hr hi hR hb0
    generalize hp : w.heap.size = p at *
    go_enter Try.func89, Try.ntmps89
    go_wp2_with fail
    generalize hW : (w.alloc (.cells #[.int .i64 N, .slice a l.length cap] 24)).alloc (.cells #[.slice ba bs.length bc, .slice ca C.length cc] 28) = W at *
    clear hW
    refine HCK.out.mono ?_
    rintro e w1 ⟨rfl, hb1⟩
    have HB1 : Hid (Below p w w1) := HB0.out.trans (hb1.mono (by omega))
    clear a0 a1 a2 a3 hb1 HCK hg0 hg1 HB0
    go_wp2_with fail
    go_ret3
    first | exact ⟨rfl, HB1.out⟩ | exact ⟨(fun h => absurd h (by decide)), (fun _ => rfl), HB1.out⟩ | exact ⟨(fun h => absurd h h1), (fun _ => rfl), HB1.out⟩
/-- What is wrong with a nest and a level of it. -/
def atE (N : Int) (l : List A) (bs : List Int) (cs : List (List Int)) (k : Int) : Int := if nsE N l bs cs ≠ 0 then nsE N l bs cs else if k < 1 ∨ (bs.length : Int) < k then 111 else 0
theorem atE_zero {N : Int} {l : List A} {bs : List Int} {cs : List (List Int)} {k : Int} (h : atE N l bs cs k = 0) : NR N l bs cs ∧ ∃ j : Nat, k = (j : Int) + 1 ∧ j < bs.length := by
  unfold atE at h
  split at h
  · rename_i h1; exact absurd h h1
  · rename_i h1
    split at h
    · cases h
    · rename_i h2
      exact ⟨nsE_zero.1 (by simpa using h1), (k - 1).toNat, by omega, by omega⟩
theorem atE_ok {N : Int} {l : List A} {bs : List Int} {cs : List (List Int)} {j : Nat} (h : NR N l bs cs) (hj : j < bs.length) : atE N l bs cs ((j : Int) + 1) = 0 := by
  unfold atE
  rw [if_neg (by rw [nsE_zero.2 h]; simp), if_neg (by omega)]
set_option maxRecDepth 100000 in
set_option maxHeartbeats 1600000 in
theorem lookAt_any (N : Int) (a : Option Addr) (l : List A) (cap : Nat) (ba : Option Addr) (bs : List Int) (bc : Nat) (ca : Option Addr) (C : List Cl) (cc : Nat) (k : Int) (w : World) (hl : l.length ≤ 9223372036854775807) (hbl : bs.length ≤ 9223372036854775807) (hr : Arcs w a l) (hi : Ints w ba bs) (hR : Rws w ca C) :
    Calls Try.prog 68 #[.agg #[.int .i64 N, .slice a l.length cap], .agg #[.slice ba bs.length bc, .slice ca C.length cc], .int .i64 k] w fun e w' =>
      (atE N l bs (csl C) k = 0 → ∃ g, (∃ c, e = .returned (.tuple #[.slice (some ⟨g, 0, none⟩) bs.length c, .int .i64 0])) ∧ Hid (LvR w' g C bs)) ∧ (atE N l bs (csl C) k ≠ 0 → e = .returned (.tuple #[.slice none 0 0, .int .i64 (atE N l bs (csl C) k)])) ∧ Below w.heap.size w w' := by
  have hb0 : Below w.heap.size w ((w.alloc (.cells #[.int .i64 N, .slice a l.length cap] 24)).alloc (.cells #[.slice ba bs.length bc, .slice ca C.length cc] 28)) := (top2 w _ _).2.2.1
  have hg0 := (top2 w (.cells #[.int .i64 N, .slice a l.length cap] 24) (.cells #[.slice ba bs.length bc, .slice ca C.length cc] 28)).1
  have hg1 := (top2 w (.cells #[.int .i64 N, .slice a l.length cap] 24) (.cells #[.slice ba bs.length bc, .slice ca C.length cc] 28)).2.1
  have hsz := (top2 w (.cells #[.int .i64 N, .slice a l.length cap] 24) (.cells #[.slice ba bs.length bc, .slice ca C.length cc] 28)).2.2.2
  obtain ⟨⟨a0, a1⟩, _⟩ := two_cells hg0
  obtain ⟨⟨a2, a3⟩, _⟩ := two_cells hg1
  have HB0 := Lib.hid hb0
  have HLK := Lib.hid (look_any N a l cap ba bs bc ca C cc _ hl hbl (hr.on hb0) (hi.on hb0) (hR.on hb0))
  obtain ⟨F, HF⟩ := named (atE N l bs (csl C) k)
  rw [HF.out]
  have HF2 : Hid (atE N l bs (csl C) k = F) := HF
  clear hr hi hR hb0
  generalize hp : w.heap.size = p at *
  by_cases h1 : nsE N l bs (csl C) = 0
  · have hFE : F = if k < 1 ∨ (bs.length : Int) < k then 111 else 0 := by rw [← HF2.out]; unfold atE; rw [if_neg (by rw [h1]; simp)]
    clear HF HF2
    have HL := Lib.hid (HLK.out.mono (fun e w' h => (⟨h.1 h1, h.2.2⟩ : (∃ g, (∃ c, e = .returned (.tuple #[.slice (some ⟨g, 0, none⟩) bs.length c, .int .i64 0, .int .i64 0])) ∧ Hid (LvR w' g C bs)) ∧ _)))
    clear HLK h1
    have HFE := Lib.hid hFE
    clear hFE
    go_enter Try.func68, Try.ntmps68
    go_wp2_with fail
    generalize hW : (w.alloc (.cells #[.int .i64 N, .slice a l.length cap] 24)).alloc (.cells #[.slice ba bs.length bc, .slice ca C.length cc] 28) = W at *
    clear hW
    refine HL.out.mono ?_
    rintro e w1 ⟨⟨g, ⟨c, rfl⟩, HLR⟩, hb1⟩
    have HB1 : Hid (Below p w w1) := HB0.out.trans (hb1.mono (by omega))
    clear a0 a1 a2 a3 hb1 HL hg0 hg1 HB0
    by_cases h2 : k < 1
    · have e2 : F = 111 := by rw [HFE.out, if_pos (.inl h2)]
      subst e2
      go_wp2_with fail
      go_ret2
      first | exact ⟨rfl, HB1.out⟩ | exact ⟨(fun h => absurd h (by decide)), (fun _ => rfl), HB1.out⟩ | exact ⟨(fun h => absurd h h1), (fun _ => rfl), HB1.out⟩
    · by_cases h3 : (bs.length : Int) < k
      · have e2 : F = 111 := by rw [HFE.out, if_pos (.inr h3)]
        subst e2
        go_wp2_with fail
        go_ret2
        first | exact ⟨rfl, HB1.out⟩ | exact ⟨(fun h => absurd h (by decide)), (fun _ => rfl), HB1.out⟩ | exact ⟨(fun h => absurd h h1), (fun _ => rfl), HB1.out⟩
      · have e2 : F = 0 := by rw [HFE.out, if_neg (by omega)]
        subst e2
        go_wp2_with fail
        go_ret2
        first | exact ⟨⟨g, ⟨c, rfl⟩, HLR⟩, HB1.out⟩ | exact ⟨(fun _ => ⟨g, ⟨c, rfl⟩, HLR⟩), (fun h => absurd rfl h), HB1.out⟩
  · have hFE : F = nsE N l bs (csl C) := by rw [← HF2.out]; unfold atE; rw [if_pos h1]
    have HL := Lib.hid (HLK.out.mono (fun e w' h => (⟨h.2.1 h1, h.2.2⟩ : e = .returned (.tuple #[.slice none 0 0, .int .i64 (nsW N l bs (csl C) : Nat), .int .i64 (nsE N l bs (csl C))]) ∧ _)))
    rw [← hFE] at HL h1
    have e1 : (F != 0) = true := by simpa using h1
    clear HLK hFE
    generalize nsW N l bs (csl C) = nw at *
    go_enter Try.func68, Try.ntmps68
    go_wp2_with fail
    generalize hW : (w.alloc (.cells #[.int .i64 N, .slice a l.length cap] 24)).alloc (.cells #[.slice ba bs.length bc, .slice ca C.length cc] 28) = W at *
    clear hW
    refine HL.out.mono ?_
    rintro e w1 ⟨rfl, hb1⟩
    have HB1 : Hid (Below p w w1) := HB0.out.trans (hb1.mono (by omega))
    clear a0 a1 a2 a3 hb1 HL hg0 hg1 HB0
    go_wp2_with fail
    go_ret2
    first | exact ⟨rfl, HB1.out⟩ | exact ⟨(fun h => absurd h (by decide)), (fun _ => rfl), HB1.out⟩ | exact ⟨(fun h => absurd h h1), (fun _ => rfl), HB1.out⟩
end Go.Proofs.Ytpmjbeiclmllmaa
