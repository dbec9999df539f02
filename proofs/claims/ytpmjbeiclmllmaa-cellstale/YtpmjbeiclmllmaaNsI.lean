/-
  nest.lookInto, Check, Many, Members.
-/
import Derived.Test.YtpmjbeiclmllmaaNsH
namespace Go.Proofs.Ytpmjbeiclmllmaa
open Go.RowKit
/-- What is wrong with a nest, a level and a cell of it. -/
def inE (N : Int) (l : List A) (bs : List Int) (cs : List (List Int)) (k x : Int) : Int := if atE N l bs cs k ≠ 0 then atE N l bs cs k else if ¬ (0 ≤ x ∧ x < ((szL (lvl cs (k.toNat - 1))).length : Nat)) then 120 else 0
theorem inE_zero {N : Int} {l : List A} {bs : List Int} {cs : List (List Int)} {k x : Int} (h : inE N l bs cs k x = 0) : NR N l bs cs ∧ ∃ j q : Nat, k = (j : Int) + 1 ∧ j < bs.length ∧ x = q ∧ q < (szL (lvl cs j)).length := by
  unfold inE at h
  split at h
  · rename_i h1; exact absurd h h1
  · rename_i h1
    split at h
    · cases h
    · rename_i h2
      obtain ⟨h3, j, rfl, hj⟩ := atE_zero (show atE N l bs cs k = 0 by simpa using h1)
      rw [show ((j : Int) + 1).toNat - 1 = j by omega] at h2
      exact ⟨h3, j, x.toNat, rfl, hj, by omega, by omega⟩
theorem inE_ok {N : Int} {l : List A} {bs : List Int} {cs : List (List Int)} {j q : Nat} (h : NR N l bs cs) (hj : j < bs.length) (hq : q < (szL (lvl cs j)).length) : inE N l bs cs ((j : Int) + 1) q = 0 := by
  unfold inE
  rw [if_neg (by rw [atE_ok h hj]; simp), show ((j : Int) + 1).toNat - 1 = j by omega, if_neg (by omega)]
set_option maxRecDepth 100000 in
set_option maxHeartbeats 1600000 in
theorem lookInto_any (N : Int) (a : Option Addr) (l : List A) (cap : Nat) (ba : Option Addr) (bs : List Int) (bc : Nat) (ca : Option Addr) (C : List Cl) (cc : Nat) (k x : Int) (w : World) (hl : l.length ≤ 9223372036854775807) (hbl : bs.length ≤ 9223372036854775807) (hr : Arcs w a l) (hi : Ints w ba bs) (hR : Rws w ca C) :
    Calls Try.prog 70 #[.agg #[.int .i64 N, .slice a l.length cap], .agg #[.slice ba bs.length bc, .slice ca C.length cc], .int .i64 k, .int .i64 x] w fun e w' =>
      (inE N l bs (csl C) k x = 0 → ∃ g, (∃ c, e = .returned (.tuple #[.slice (some ⟨g, 0, none⟩) bs.length c, .int .i64 0])) ∧ Hid (LvR w' g C bs)) ∧ (inE N l bs (csl C) k x ≠ 0 → e = .returned (.tuple #[.slice none 0 0, .int .i64 (inE N l bs (csl C) k x)])) ∧ Below w.heap.size w w' := by
  have hb0 : Below w.heap.size w ((w.alloc (.cells #[.int .i64 N, .slice a l.length cap] 24)).alloc (.cells #[.slice ba bs.length bc, .slice ca C.length cc] 28)) := (top2 w _ _).2.2.1
  have hg0 := (top2 w (.cells #[.int .i64 N, .slice a l.length cap] 24) (.cells #[.slice ba bs.length bc, .slice ca C.length cc] 28)).1
  have hg1 := (top2 w (.cells #[.int .i64 N, .slice a l.length cap] 24) (.cells #[.slice ba bs.length bc, .slice ca C.length cc] 28)).2.1
  have hsz := (top2 w (.cells #[.int .i64 N, .slice a l.length cap] 24) (.cells #[.slice ba bs.length bc, .slice ca C.length cc] 28)).2.2.2
  obtain ⟨⟨a0, a1⟩, _⟩ := two_cells hg0
  obtain ⟨⟨a2, a3⟩, _⟩ := two_cells hg1
  have HB0 := Lib.hid hb0
  have HLK := Lib.hid (lookAt_any N a l cap ba bs bc ca C cc k _ hl hbl (hr.on hb0) (hi.on hb0) (hR.on hb0))
  obtain ⟨F, HF⟩ := named (inE N l bs (csl C) k x)
  rw [HF.out]
  have HF2 : Hid (inE N l bs (csl C) k x = F) := HF
  clear hr hi hR hb0
  generalize hp : w.heap.size = p at *
  by_cases h1 : atE N l bs (csl C) k = 0
  · have hFE : F = if ¬ (0 ≤ x ∧ x < ((szL (lvl (csl C) (k.toNat - 1))).length : Nat)) then 120 else 0 := by rw [← HF2.out]; unfold inE; rw [if_neg (by rw [h1]; simp)]
    clear HF HF2
    have HL := Lib.hid (HLK.out.mono (fun e w' h => (⟨h.1 h1, h.2.2⟩ : (∃ g, (∃ c, e = .returned (.tuple #[.slice (some ⟨g, 0, none⟩) bs.length c, .int .i64 0])) ∧ Hid (LvR w' g C bs)) ∧ _)))
    obtain ⟨hNR, j, rfl, hj⟩ := atE_zero h1
    rw [show ((j : Int) + 1).toNat - 1 = j by omega, csl_at] at hFE
    have h5 := hNR.2.2.1
    clear HLK h1 hNR
    have HFE := Lib.hid hFE
    clear hFE
    have ej : (j : Int) + 1 - 1 = j := by omega
    have hj' : (j : Int) < bs.length := by omega
    go_enter Try.func70, Try.ntmps70
    go_wp2_with fail
    generalize hW : (w.alloc (.cells #[.int .i64 N, .slice a l.length cap] 24)).alloc (.cells #[.slice ba bs.length bc, .slice ca C.length cc] 28) = W at *
    clear hW
    refine HL.out.mono ?_
    rintro e w1 ⟨⟨g, ⟨c, rfl⟩, HLR⟩, hb1⟩
    have HB1 : Hid (Below p w w1) := HB0.out.trans (hb1.mono (by omega))
    have hwz : p ≤ w1.heap.size := by have := hb1.size; omega
    obtain ⟨sv, sd, d0, d1, _, _⟩ := HLR.out.2 j hj
    unfold Cl.val at d0
    generalize (szL (cl C j).xs).length = m at *
    clear a0 a1 a2 a3 hb1 HL hg0 hg1 HB0
    go_wp2_with fail
    refine (nsHas_any _ _ _ _ _ _).mono ?_
    rintro e w2 ⟨rfl, hb2⟩
    have HL2 := Lib.hid (HLR.out.on hb2)
    have HB1 : Hid (Below p w w2) := HB1.out.trans (hb2.mono hwz)
    clear hb2 HLR d0 d1
    by_cases h2 : 0 ≤ x ∧ x < (m : Int)
    · have e2 : F = 0 := by rw [HFE.out, if_neg (fun h => h h2)]
      subst e2
      rw [decide_eq_true h2]
      go_wp2_with fail
      go_ret2
      first | exact ⟨⟨g, ⟨c, rfl⟩, HL2⟩, HB1.out⟩ | exact ⟨(fun _ => ⟨g, ⟨c, rfl⟩, HL2⟩), (fun h => absurd rfl h), HB1.out⟩
    · have e2 : F = 120 := by rw [HFE.out, if_pos h2]
      subst e2
      rw [decide_eq_false h2]
      go_wp2_with fail
      go_ret2
      first | exact ⟨rfl, HB1.out⟩ | exact ⟨(fun h => absurd h (by decide)), (fun _ => rfl), HB1.out⟩ | exact ⟨(fun h => absurd h h1), (fun _ => rfl), HB1.out⟩
  · have hFE : F = atE N l bs (csl C) k := by rw [← HF2.out]; unfold inE; rw [if_pos h1]
    have HL := Lib.hid (HLK.out.mono (fun e w' h => (⟨h.2.1 h1, h.2.2⟩ : e = .returned (.tuple #[.slice none 0 0, .int .i64 (atE N l bs (csl C) k)]) ∧ _)))
    rw [← hFE] at HL h1
    have e1 : (F != 0) = true := by simpa using h1
    clear HLK hFE
    go_enter Try.func70, Try.ntmps70
    go_wp2_with fail
    generalize hW : (w.alloc (.cells #[.int .i64 N, .slice a l.length cap] 24)).alloc (.cells #[.slice ba bs.length bc, .slice ca C.length cc] 28) = W at *
    clear hW
    refine HL.out.mono ?_
    rintro e w1 ⟨rfl, hb1⟩
    have HB1 : Hid (Below p w w1) := HB0.out.trans (hb1.mono (by omega))
    clear a0 a1 a2 a3 hb1 HL hg0 hg1 HB0
    go_wp2_with fail
    go_ret2
    first | exact ⟨rfl, HB1.out⟩ | exact ⟨(fun h => absurd h (by decide)), (fun _ => rfl), HB1.out⟩ | exact ⟨(fun h => absurd h h1), (fun _ => rfl), HB1.out⟩
set_option maxRecDepth 100000 in
set_option maxHeartbeats 1600000 in
/-- nest.Check. -/
theorem ncheck_any (N : Int) (a : Option Addr) (l : List A) (cap : Nat) (ba : Option Addr) (bs : List Int) (bc : Nat) (ca : Option Addr) (C : List Cl) (cc : Nat) (w : World) (hl : l.length ≤ 9223372036854775807) (hbl : bs.length ≤ 9223372036854775807) (hr : Arcs w a l) (hi : Ints w ba bs) (hR : Rws w ca C) :
    Calls Try.prog 62 #[.agg #[.int .i64 N, .slice a l.length cap], .agg #[.slice ba bs.length bc, .slice ca C.length cc]] w fun e w' => e = .returned (.tuple #[.int .i64 (nsW N l bs (csl C) : Nat), .int .i64 (nsE N l bs (csl C))]) ∧ Below w.heap.size w w' := by
  have hb0 : Below w.heap.size w ((w.alloc (.cells #[.int .i64 N, .slice a l.length cap] 24)).alloc (.cells #[.slice ba bs.length bc, .slice ca C.length cc] 28)) := (top2 w _ _).2.2.1
  have hg0 := (top2 w (.cells #[.int .i64 N, .slice a l.length cap] 24) (.cells #[.slice ba bs.length bc, .slice ca C.length cc] 28)).1
  have hg1 := (top2 w (.cells #[.int .i64 N, .slice a l.length cap] 24) (.cells #[.slice ba bs.length bc, .slice ca C.length cc] 28)).2.1
  have hsz := (top2 w (.cells #[.int .i64 N, .slice a l.length cap] 24) (.cells #[.slice ba bs.length bc, .slice ca C.length cc] 28)).2.2.2
  obtain ⟨⟨a0, a1⟩, _⟩ := two_cells hg0
  obtain ⟨⟨a2, a3⟩, _⟩ := two_cells hg1
  have HB0 := Lib.hid hb0
  have HLK := Lib.hid (look_any N a l cap ba bs bc ca C cc _ hl hbl (hr.on hb0) (hi.on hb0) (hR.on hb0))
  clear hr hi hR hb0
  generalize hp : w.heap.size = p at *
  by_cases h1 : nsE N l bs (csl C) = 0
  · have HL := Lib.hid (HLK.out.mono (fun e w' h => (⟨h.1 h1, h.2.2⟩ : (∃ g, (∃ c, e = .returned (.tuple #[.slice (some ⟨g, 0, none⟩) bs.length c, .int .i64 0, .int .i64 0])) ∧ Hid (LvR w' g C bs)) ∧ _)))
    rw [nsW_zero h1, h1]
    clear HLK h1
    go_enter Try.func62, Try.ntmps62
    go_wp2_with fail
    generalize hW : (w.alloc (.cells #[.int .i64 N, .slice a l.length cap] 24)).alloc (.cells #[.slice ba bs.length bc, .slice ca C.length cc] 28) = W at *
    clear hW
    refine HL.out.mono ?_
    rintro e w1 ⟨⟨g, ⟨c, rfl⟩, HLR⟩, hb1⟩
    have HB1 : Hid (Below p w w1) := HB0.out.trans (hb1.mono (by omega))
    clear a0 a1 a2 a3 hb1 HL hg0 hg1 HB0
    go_wp2_with fail
    go_ret2
    exact ⟨rfl, HB1.out⟩
  · have HL := Lib.hid (HLK.out.mono (fun e w' h => (⟨h.2.1 h1, h.2.2⟩ : e = .returned (.tuple #[.slice none 0 0, .int .i64 (nsW N l bs (csl C) : Nat), .int .i64 (nsE N l bs (csl C))]) ∧ _)))
    clear HLK h1
    generalize nsW N l bs (csl C) = nw at *
    generalize nsE N l bs (csl C) = ne at *
    go_enter Try.func62, Try.ntmps62
    go_wp2_with fail
    generalize hW : (w.alloc (.cells #[.int .i64 N, .slice a l.length cap] 24)).alloc (.cells #[.slice ba bs.length bc, .slice ca C.length cc] 28) = W at *
    clear hW
    refine HL.out.mono ?_
    rintro e w1 ⟨rfl, hb1⟩
    have HB1 : Hid (Below p w w1) := HB0.out.trans (hb1.mono (by omega))
    clear a0 a1 a2 a3 hb1 HL hg0 hg1 HB0
    go_wp2_with fail
    go_ret2
    exact ⟨rfl, HB1.out⟩
/-- How many cells there are at a level. -/
def manyV (N : Int) (l : List A) (bs : List Int) (cs : List (List Int)) (k : Int) : Nat := if atE N l bs cs k = 0 then (szL (lvl cs (k.toNat - 1))).length else 0
set_option maxRecDepth 100000 in
set_option maxHeartbeats 1600000 in
theorem many_any (N : Int) (a : Option Addr) (l : List A) (cap : Nat) (ba : Option Addr) (bs : List Int) (bc : Nat) (ca : Option Addr) (C : List Cl) (cc : Nat) (k : Int) (w : World) (hl : l.length ≤ 9223372036854775807) (hbl : bs.length ≤ 9223372036854775807) (hr : Arcs w a l) (hi : Ints w ba bs) (hR : Rws w ca C) :
    Calls Try.prog 33 #[.agg #[.int .i64 N, .slice a l.length cap], .agg #[.slice ba bs.length bc, .slice ca C.length cc], .int .i64 k] w fun e w' => e = .returned (.tuple #[.int .i64 (manyV N l bs (csl C) k : Nat), .int .i64 (atE N l bs (csl C) k)]) ∧ Below w.heap.size w w' := by
  have hb0 : Below w.heap.size w ((w.alloc (.cells #[.int .i64 N, .slice a l.length cap] 24)).alloc (.cells #[.slice ba bs.length bc, .slice ca C.length cc] 28)) := (top2 w _ _).2.2.1
  have hg0 := (top2 w (.cells #[.int .i64 N, .slice a l.length cap] 24) (.cells #[.slice ba bs.length bc, .slice ca C.length cc] 28)).1
  have hg1 := (top2 w (.cells #[.int .i64 N, .slice a l.length cap] 24) (.cells #[.slice ba bs.length bc, .slice ca C.length cc] 28)).2.1
  have hsz := (top2 w (.cells #[.int .i64 N, .slice a l.length cap] 24) (.cells #[.slice ba bs.length bc, .slice ca C.length cc] 28)).2.2.2
  obtain ⟨⟨a0, a1⟩, _⟩ := two_cells hg0
  obtain ⟨⟨a2, a3⟩, _⟩ := two_cells hg1
  have HB0 := Lib.hid hb0
  have HLK := Lib.hid (lookAt_any N a l cap ba bs bc ca C cc k _ hl hbl (hr.on hb0) (hi.on hb0) (hR.on hb0))
  clear hr hi hR hb0
  generalize hp : w.heap.size = p at *
  by_cases h1 : atE N l bs (csl C) k = 0
  · have HL := Lib.hid (HLK.out.mono (fun e w' h => (⟨h.1 h1, h.2.2⟩ : (∃ g, (∃ c, e = .returned (.tuple #[.slice (some ⟨g, 0, none⟩) bs.length c, .int .i64 0])) ∧ Hid (LvR w' g C bs)) ∧ _)))
    unfold manyV
    rw [if_pos h1, h1]
    obtain ⟨hNR, j, rfl, hj⟩ := atE_zero h1
    rw [show ((j : Int) + 1).toNat - 1 = j by omega, csl_at]
    have h5 := hNR.2.2.1
    clear HLK h1 hNR
    have ej : (j : Int) + 1 - 1 = j := by omega
    have hj' : (j : Int) < bs.length := by omega
    obtain ⟨m, HM⟩ := named (szL (cl C j).xs).length
    rw [HM.out]
    go_enter Try.func33, Try.ntmps33
    go_wp2_with fail
    generalize hW : (w.alloc (.cells #[.int .i64 N, .slice a l.length cap] 24)).alloc (.cells #[.slice ba bs.length bc, .slice ca C.length cc] 28) = W at *
    clear hW
    refine HL.out.mono ?_
    rintro e w1 ⟨⟨g, ⟨c, rfl⟩, HLR⟩, hb1⟩
    have HB1 : Hid (Below p w w1) := HB0.out.trans (hb1.mono (by omega))
    have hwz : p ≤ w1.heap.size := by have := hb1.size; omega
    obtain ⟨sv, sd, d0, d1, _, _⟩ := HLR.out.2 j hj
    unfold Cl.val at d0
    rw [HM.out] at d1
    clear a0 a1 a2 a3 hb1 HL hg0 hg1 HB0
    go_wp2_with fail
    refine (nsMany_any _ _ _ _ _).mono ?_
    rintro e w2 ⟨rfl, hb2⟩
    have HB1 : Hid (Below p w w2) := HB1.out.trans (hb2.mono hwz)
    clear hb2 HLR d0 d1
    go_wp2_with fail
    go_ret2
    exact ⟨rfl, HB1.out⟩
  · have HL := Lib.hid (HLK.out.mono (fun e w' h => (⟨h.2.1 h1, h.2.2⟩ : e = .returned (.tuple #[.slice none 0 0, .int .i64 (atE N l bs (csl C) k)]) ∧ _)))
    unfold manyV
    rw [if_neg h1]
    obtain ⟨F, HF⟩ := named (atE N l bs (csl C) k)
    rw [HF.out] at HL h1 ⊢
    have e1 : (F != 0) = true := by simpa using h1
    clear HLK
    go_enter Try.func33, Try.ntmps33
    go_wp2_with fail
    generalize hW : (w.alloc (.cells #[.int .i64 N, .slice a l.length cap] 24)).alloc (.cells #[.slice ba bs.length bc, .slice ca C.length cc] 28) = W at *
    clear hW
    refine HL.out.mono ?_
    rintro e w1 ⟨rfl, hb1⟩
    have HB1 : Hid (Below p w w1) := HB0.out.trans (hb1.mono (by omega))
    clear a0 a1 a2 a3 hb1 HL hg0 hg1 HB0
    go_wp2_with fail
    go_ret2
    exact ⟨rfl, HB1.out⟩
set_option maxRecDepth 100000 in
set_option maxHeartbeats 1600000 in
theorem members_any (N : Int) (a : Option Addr) (l : List A) (cap : Nat) (ba : Option Addr) (bs : List Int) (bc : Nat) (ca : Option Addr) (C : List Cl) (cc : Nat) (k x : Int) (w : World) (hl : l.length ≤ 9223372036854775807) (hbl : bs.length ≤ 9223372036854775807) (hr : Arcs w a l) (hi : Ints w ba bs) (hR : Rws w ca C) :
    Calls Try.prog 83 #[.agg #[.int .i64 N, .slice a l.length cap], .agg #[.slice ba bs.length bc, .slice ca C.length cc], .int .i64 k, .int .i64 x] w fun e w' => ∃ v c S, e = .returned (.tuple #[.slice v S.length c, .int .i64 (inE N l bs (csl C) k x)]) ∧ w'.ownsRow w.heap.size 3 1 (.slice v S.length c) S.length (cellsI (ints S)) ∧ Hid (S = if inE N l bs (csl C) k x = 0 then mbr (lvl (csl C) (k.toNat - 1)) x else []) ∧ Below w.heap.size w w' := by
  have hb0 : Below w.heap.size w ((w.alloc (.cells #[.int .i64 N, .slice a l.length cap] 24)).alloc (.cells #[.slice ba bs.length bc, .slice ca C.length cc] 28)) := (top2 w _ _).2.2.1
  have hg0 := (top2 w (.cells #[.int .i64 N, .slice a l.length cap] 24) (.cells #[.slice ba bs.length bc, .slice ca C.length cc] 28)).1
  have hg1 := (top2 w (.cells #[.int .i64 N, .slice a l.length cap] 24) (.cells #[.slice ba bs.length bc, .slice ca C.length cc] 28)).2.1
  have hsz := (top2 w (.cells #[.int .i64 N, .slice a l.length cap] 24) (.cells #[.slice ba bs.length bc, .slice ca C.length cc] 28)).2.2.2
  obtain ⟨⟨a0, a1⟩, _⟩ := two_cells hg0
  obtain ⟨⟨a2, a3⟩, _⟩ := two_cells hg1
  have HB0 := Lib.hid hb0
  have HLK := Lib.hid (lookInto_any N a l cap ba bs bc ca C cc k x _ hl hbl (hr.on hb0) (hi.on hb0) (hR.on hb0))
  have HRR := Lib.hid hR
  clear hr hi hR hb0
  generalize hp : w.heap.size = p at *
  by_cases h1 : inE N l bs (csl C) k x = 0
  · have HL := Lib.hid (HLK.out.mono (fun e w' h => (⟨h.1 h1, h.2.2⟩ : (∃ g, (∃ c, e = .returned (.tuple #[.slice (some ⟨g, 0, none⟩) bs.length c, .int .i64 0])) ∧ Hid (LvR w' g C bs)) ∧ _)))
    rw [h1, if_pos rfl]
    obtain ⟨hNR, j, q, rfl, hj, rfl, hq⟩ := inE_zero h1
    obtain ⟨b1, b2, b3, _⟩ := hNR.lv hj
    rw [show ((j : Int) + 1).toNat - 1 = j by omega, csl_at]
    rw [csl_at] at hq b1 b2
    have h5 := hNR.2.2.1
    have hN := (chk_zero hNR.1).2.1
    have hxl : (cl C j).xs.length ≤ 1024 := by omega
    have hsz1 := Nat.le_trans (szL_length (cl C j).xs) hxl
    have hjc : j < C.length := by have := hNR.2.2.2.1; rw [csl_len] at this; omega
    have HIX := Lib.hid (HRR.out.2 j hjc).1
    clear HLK h1 hNR b3
    have ej : (j : Int) + 1 - 1 = j := by omega
    have hj' : (j : Int) < bs.length := by omega
    have hqm : ∃ m : Nat, m ≤ 1024 ∧ (ints (szL (cl C j).xs)).getD q 0 = m := ⟨_, Nat.le_trans (szL_le _ q) hxl, ints_getD hq⟩
    obtain ⟨m, hm, hqm⟩ := hqm
    have HQM := Lib.hid hqm
    clear hqm
    go_enter Try.func83, Try.ntmps83
    go_wp2_with fail
    generalize hW : (w.alloc (.cells #[.int .i64 N, .slice a l.length cap] 24)).alloc (.cells #[.slice ba bs.length bc, .slice ca C.length cc] 28) = W at *
    clear hW
    refine HL.out.mono ?_
    rintro e w1 ⟨⟨g, ⟨c, rfl⟩, HLR⟩, hb1⟩
    have HB1 : Hid (Below p w w1) := HB0.out.trans (hb1.mono (by omega))
    have hwz : p ≤ w1.heap.size := by have := hb1.size; omega
    obtain ⟨sv, sd, d0, d1, _, hsi⟩ := HLR.out.2 j hj
    have HMB := Lib.hid (nsMembers_any (cl C j).a (cl C j).xs (cl C j).c sv (ints (szL (cl C j).xs)) sd q m w1 hxl (by rw [ints_len]; exact hsz1) (by rw [ints_len]; exact hq) HQM.out hm (HIX.out.on (by rw [hp]; exact HB1.out)) hsi)
    rw [ints_len, mbL_eq] at HMB
    unfold Cl.val at d0
    generalize (szL (cl C j).xs).length = sl at *
    obtain ⟨M, HM⟩ := named (mbr (cl C j).xs q)
    rw [HM.out] at HMB
    generalize (cl C j).xs.length = xl at *
    generalize (cl C j).a = xa at *
    generalize (cl C j).c = xc at *
    clear a0 a1 a2 a3 hb1 HL hg0 hg1 HB0 hsi
    go_wp2_with fail
    refine HMB.out.mono ?_
    rintro e w2 ⟨v, c2, S, rfl, hown, hSM, hb2⟩
    have HSM : Hid (S = mbr (cl C j).xs q) := hSM.trans HM.out.symm
    have HB1 : Hid (Below p w w2) := HB1.out.trans (hb2.mono hwz)
    have HOW := Lib.hid (own_base hown hwz)
    clear hb2 HLR d0 d1 hown HMB hSM
    go_wp2_with fail
    go_ret2
    exact ⟨v, c2, S, rfl, HOW.out, HSM, HB1.out⟩
  · have HL := Lib.hid (HLK.out.mono (fun e w' h => (⟨h.2.1 h1, h.2.2⟩ : e = .returned (.tuple #[.slice none 0 0, .int .i64 (inE N l bs (csl C) k x)]) ∧ _)))
    rw [if_neg h1]
    obtain ⟨F, HF⟩ := named (inE N l bs (csl C) k x)
    rw [HF.out] at HL h1 ⊢
    have e1 : (F != 0) = true := by simpa using h1
    clear HLK
    go_enter Try.func83, Try.ntmps83
    go_wp2_with fail
    generalize hW : (w.alloc (.cells #[.int .i64 N, .slice a l.length cap] 24)).alloc (.cells #[.slice ba bs.length bc, .slice ca C.length cc] 28) = W at *
    clear hW
    refine HL.out.mono ?_
    rintro e w1 ⟨rfl, hb1⟩
    have HB1 : Hid (Below p w w1) := HB0.out.trans (hb1.mono (by omega))
    clear a0 a1 a2 a3 hb1 HL hg0 hg1 HB0
    go_wp2_with fail
    go_ret2
    exact ⟨none, 0, [], rfl, World.ownsRow_nil _ _ _ _, Lib.hid rfl, HB1.out⟩
end Go.Proofs.Ytpmjbeiclmllmaa
