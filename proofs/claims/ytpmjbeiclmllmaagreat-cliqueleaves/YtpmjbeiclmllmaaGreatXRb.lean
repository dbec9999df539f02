/-
  What is lent and copied, as it lies. The reference's Count, Many, Has, In. The contract of flyoverref03.All. Arcs inside cells and between them: the mathematics. The reference's Edge, Place, Inside, Across. The reference's Place, Inside, Across. The reference's Across. The reference's Boundary, Index, Inner, Between.
-/
import Derived.Test.YtpmjbeiclmllmaaGreatXRa
import Derived.Test.YtpmjbeiclmllmaaGreatMem
import Derived.LoopN
import Derived.Test.YtpmjbeiclmllmaaGreatXCec
import Derived.Deep.DeepMust
import Derived.Test.YtpmjbeiclmllmaaGreatXKp
namespace Go.Proofs.YtpmjbeiclmllmaaGreat
open Go.RowKit
theorem gmx_ge {xs : List Int} {j : Nat} (h : j < xs.length) : xs.getD j 0 ≤ gmx xs := ((gmx_le xs (gmx xs)).1 (Int.le_refl _)).2 j h
theorem gmx_many {xs : List Int} (ht : tdy xs 0 = true) (h0 : 0 < xs.length) : gmx xs + 1 = ((szL xs).length : Nat) := by
  obtain ⟨h1, h2, h3⟩ := ls_right ht
  have h4 := ls_len ht
  have h5 := (h3 0 h0).2
  have h6 : gmx xs ≤ ((szL xs).length : Int) - 1 := (gmx_le xs _).2 ⟨by omega, fun j hj => by have := h3 j hj; omega⟩
  obtain ⟨h7, h8, _⟩ := h2 ((lsL xs 0 []).length - 1) (by omega)
  have h9 := gmx_ge h7
  rw [h8] at h9
  omega
set_option maxRecDepth 100000 in
set_option maxHeartbeats 1600000 in
theorem rcount_any (ba : Option Addr) (bs : List Int) (bc : Nat) (ca : Option Addr) (C : List Cl) (cc : Nat) (j : Nat) (w : World) (hj : j < C.length) (hC : C.length ≤ 5) (ht : tdy (cl C j).xs 0 = true) (h0 : 0 < (cl C j).xs.length) (hx : (cl C j).xs.length ≤ 1024) (hR : Rws w ca C) :
    Calls Tryz.prog 81 #[.agg #[.slice ba bs.length bc, .slice ca C.length cc], .int .i64 ((j : Int) + 1)] w fun e w' => e = .returned (.int .i64 ((szL (cl C j).xs).length : Nat)) ∧ Below w.heap.size w w' := by
  have hb0 : Below w.heap.size w (w.alloc (.cells #[.slice ba bs.length bc, .slice ca C.length cc] 28)) := (Below.refl _ _).alloc (Nat.le_refl _) _
  have hg := heap_top w (.cells #[.slice ba bs.length bc, .slice ca C.length cc] 28)
  obtain ⟨⟨c0, c1⟩, _⟩ := two_cells hg
  obtain ⟨bx, ox, hbx⟩ := hR.get
  obtain ⟨rfl, hbl, hcell⟩ := hbx (by omega)
  have d0 := (hb0.cell (p := ⟨bx, ox + j, none⟩) hbl).trans (hcell j hj)
  unfold Cl.val at d0
  have HGA := Lib.hid (greatest_any (cl C j).a (cl C j).xs (cl C j).c (w.alloc (.cells #[.slice ba bs.length bc, .slice (some ⟨bx, ox, none⟩) C.length cc] 28)) (by omega) ((hR.2 j hj).1.on hb0))
  have HGM := Lib.hid (gmx_many ht h0)
  have hsz := szL_length (cl C j).xs
  generalize (szL (cl C j).xs).length = m at *
  obtain ⟨gm, HG⟩ := named (gmx (cl C j).xs)
  rw [HG.out] at HGA HGM
  have hgm : gm = (m : Int) - 1 := by have := HGM.out; omega
  subst hgm
  have HB0 := Lib.hid hb0
  have hj' : (j : Int) < C.length := by omega
  have ej : (j : Int) + 1 - 1 = j := by omega
  have em : (m : Int) - 1 + 1 = m := by omega
  clear hcell hbx hb0 hg hR ht HG
  generalize (cl C j).xs.length = xl at *
  go_enter Tryz.func81, Tryz.ntmps81
  go_wp2_with fail
  refine HGA.out.mono ?_
  rintro e w1 ⟨rfl, rfl⟩
  clear HGA
  go_wp2_with fail
  go_ret
  exact ⟨rfl, HB0.out⟩
set_option maxRecDepth 100000 in
set_option maxHeartbeats 1600000 in
theorem rmany_any (N : Int) (a : Option Addr) (l : List A) (cap : Nat) (ba : Option Addr) (bs : List Int) (bc : Nat) (ca : Option Addr) (C : List Cl) (cc : Nat) (k : Int) (w : World) (hl : l.length ≤ 9223372036854775807) (hbl : bs.length ≤ 9223372036854775807) (hr : Arcs w a l) (hi : Ints w ba bs) (hR : Rws w ca C) :
    Calls Tryz.prog 73 #[.agg #[.int .i64 N, .slice a l.length cap], .agg #[.slice ba bs.length bc, .slice ca C.length cc], .int .i64 k] w fun e w' => e = .returned (.tuple #[.int .i64 (manyV N l bs (csl C) k : Nat), .int .i64 (atE N l bs (csl C) k)]) ∧ Below w.heap.size w w' := by
  have hb0 : Below w.heap.size w ((w.alloc (.cells #[.int .i64 N, .slice a l.length cap] 24)).alloc (.cells #[.slice ba bs.length bc, .slice ca C.length cc] 28)) := (top2 w _ _).2.2.1
  have hg0 := (top2 w (.cells #[.int .i64 N, .slice a l.length cap] 24) (.cells #[.slice ba bs.length bc, .slice ca C.length cc] 28)).1
  have hg1 := (top2 w (.cells #[.int .i64 N, .slice a l.length cap] 24) (.cells #[.slice ba bs.length bc, .slice ca C.length cc] 28)).2.1
  have hsz := (top2 w (.cells #[.int .i64 N, .slice a l.length cap] 24) (.cells #[.slice ba bs.length bc, .slice ca C.length cc] 28)).2.2.2
  obtain ⟨⟨a0, a1⟩, _⟩ := two_cells hg0
  obtain ⟨⟨a2, a3⟩, _⟩ := two_cells hg1
  have HB0 := Lib.hid hb0
  have HCK := Lib.hid (rnck_any N a l cap ba bs bc ca C cc _ hl hbl (hr.on hb0) (hi.on hb0) (hR.on hb0))
  obtain ⟨E, HE⟩ := named (nsE N l bs (csl C))
  generalize nsW N l bs (csl C) = nw at *
  rw [HE.out] at HCK
  have HG1 := Lib.hid hg1
  have HRR := Lib.hid hR
  have HAT : Hid (atE N l bs (csl C) k = if E ≠ 0 then E else if k < 1 ∨ (bs.length : Int) < k then 111 else 0) := by show _ = _; unfold atE; rw [HE.out]
  obtain ⟨T, HT⟩ := named (atE N l bs (csl C) k)
  have HMV : Hid (manyV N l bs (csl C) k = if T = 0 then (szL (lvl (csl C) (k.toNat - 1))).length else 0) := by show _ = _; unfold manyV; rw [HT.out]
  rw [HT.out] at HAT
  obtain ⟨M, HM⟩ := named (manyV N l bs (csl C) k)
  rw [HM.out] at HMV
  rw [HT.out, HM.out]
  clear hr hi hR hb0 HM
  generalize hp : w.heap.size = p at *
  go_enter Tryz.func73, Tryz.ntmps73
  go_wp2_with fail
  generalize hW : (w.alloc (.cells #[.int .i64 N, .slice a l.length cap] 24)).alloc (.cells #[.slice ba bs.length bc, .slice ca C.length cc] 28) = W at *
  clear hW
  refine HCK.out.mono ?_
  rintro e w1 ⟨rfl, hb1⟩
  have HB1 : Hid (Below p w w1) := HB0.out.trans (hb1.mono (by omega))
  obtain ⟨⟨k2, k3⟩, _⟩ := two_cells ((hb1.block (p + 1) (by omega)).trans HG1.out)
  have hw1 : p ≤ w1.heap.size := by have := HB1.out.size; omega
  clear a0 a1 a2 a3 hb1 HCK hg0 hg1 HB0 HG1
  by_cases hE : E = 0
  · subst hE
    have HAT : Hid (T = if k < 1 ∨ (bs.length : Int) < k then 111 else 0) := by show _ = _; rw [HAT.out, if_neg (by simp)]
    by_cases c1 : k < 1
    · obtain rfl : T = 111 := by rw [HAT.out, if_pos (.inl c1)]
      obtain rfl : M = 0 := by rw [HMV.out, if_neg (by decide)]
      go_wp2_with fail
      go_ret2
      exact ⟨rfl, HB1.out⟩
    · by_cases c2 : (bs.length : Int) < k
      · obtain rfl : T = 111 := by rw [HAT.out, if_pos (.inr c2)]
        obtain rfl : M = 0 := by rw [HMV.out, if_neg (by decide)]
        go_wp2_with fail
        go_ret2
        exact ⟨rfl, HB1.out⟩
      · obtain rfl : T = 0 := by rw [HAT.out, if_neg (by omega)]
        have hNR := nsE_zero.1 HE.out
        obtain ⟨j, rfl⟩ : ∃ j : Nat, k = (j : Int) + 1 := ⟨(k - 1).toNat, by omega⟩
        have hjb : j < bs.length := by omega
        have hcl : C.length = bs.length := by have := hNR.2.2.2.1; rw [csl_len] at this; exact this
        obtain ⟨h1, h2, _, _⟩ := hNR.lv hjb
        rw [csl_at] at h1 h2
        have h1024 := (chk_zero hNR.1).2.1
        have h0N := (chk_zero hNR.1).1
        have h5 := hNR.2.2.1
        have HMM : Hid (M = (szL (cl C j).xs).length) := by show _ = _; rw [HMV.out, if_pos rfl, show ((j : Int) + 1).toNat - 1 = j by omega, csl_at]
        have HCT := Lib.hid (rcount_any ba bs bc ca C cc j w1 (by omega) (by omega) h2 (by omega) (by omega) (HRR.out.on (hp ▸ HB1.out)))
        rw [← HMM.out] at HCT
        clear hNR h1 h2 hcl HMV
        go_wp2_with fail
        refine HCT.out.mono ?_
        rintro e w2 ⟨rfl, hb2⟩
        have HB2 : Hid (Below p w w2) := HB1.out.trans (hb2.mono hw1)
        clear hb2 HCT k2 k3
        go_wp2_with fail
        go_ret2
        exact ⟨rfl, HB2.out⟩
  · have e1 : (E != 0) = true := by simpa using hE
    obtain rfl : T = E := by rw [HAT.out, if_pos hE]
    obtain rfl : M = 0 := by rw [HMV.out, if_neg hE]
    go_wp2_with fail
    go_ret2
    exact ⟨rfl, HB1.out⟩
set_option maxRecDepth 100000 in
set_option maxHeartbeats 1600000 in
theorem rhas_any (N : Int) (a : Option Addr) (l : List A) (cap : Nat) (ba : Option Addr) (bs : List Int) (bc : Nat) (ca : Option Addr) (C : List Cl) (cc : Nat) (k x : Int) (w : World) (hl : l.length ≤ 9223372036854775807) (hbl : bs.length ≤ 9223372036854775807) (hr : Arcs w a l) (hi : Ints w ba bs) (hR : Rws w ca C) :
    Calls Tryz.prog 39 #[.agg #[.int .i64 N, .slice a l.length cap], .agg #[.slice ba bs.length bc, .slice ca C.length cc], .int .i64 k, .int .i64 x] w fun e w' => e = .returned (.int .i64 (inE N l bs (csl C) k x)) ∧ Below w.heap.size w w' := by
  have hb0 : Below w.heap.size w ((w.alloc (.cells #[.int .i64 N, .slice a l.length cap] 24)).alloc (.cells #[.slice ba bs.length bc, .slice ca C.length cc] 28)) := (top2 w _ _).2.2.1
  have hg0 := (top2 w (.cells #[.int .i64 N, .slice a l.length cap] 24) (.cells #[.slice ba bs.length bc, .slice ca C.length cc] 28)).1
  have hg1 := (top2 w (.cells #[.int .i64 N, .slice a l.length cap] 24) (.cells #[.slice ba bs.length bc, .slice ca C.length cc] 28)).2.1
  have hsz := (top2 w (.cells #[.int .i64 N, .slice a l.length cap] 24) (.cells #[.slice ba bs.length bc, .slice ca C.length cc] 28)).2.2.2
  obtain ⟨⟨a0, a1⟩, _⟩ := two_cells hg0
  obtain ⟨⟨a2, a3⟩, _⟩ := two_cells hg1
  have HB0 := Lib.hid hb0
  have HCK := Lib.hid (rmany_any N a l cap ba bs bc ca C cc k _ hl hbl (hr.on hb0) (hi.on hb0) (hR.on hb0))
  have HIE : Hid (inE N l bs (csl C) k x = if atE N l bs (csl C) k ≠ 0 then atE N l bs (csl C) k else if ¬ (0 ≤ x ∧ x < (manyV N l bs (csl C) k : Nat)) then 120 else 0) := by
    show _ = _
    unfold inE
    by_cases h : atE N l bs (csl C) k = 0
    · unfold manyV
      rw [if_pos h]
    · rw [if_pos h, if_pos h]
  obtain ⟨E, HE⟩ := named (atE N l bs (csl C) k)
  obtain ⟨M, HM⟩ := named (manyV N l bs (csl C) k)
  rw [HE.out, HM.out] at HCK HIE
  obtain ⟨R, HR⟩ := named (inE N l bs (csl C) k x)
  rw [HR.out] at HIE
  rw [HR.out]
  clear hr hi hR hb0 HE HM HR
  generalize hp : w.heap.size = p at *
  go_enter Tryz.func39, Tryz.ntmps39
  go_wp2_with fail
  generalize hW : (w.alloc (.cells #[.int .i64 N, .slice a l.length cap] 24)).alloc (.cells #[.slice ba bs.length bc, .slice ca C.length cc] 28) = W at *
  clear hW
  refine HCK.out.mono ?_
  rintro e w1 ⟨rfl, hb1⟩
  have HB1 : Hid (Below p w w1) := HB0.out.trans (hb1.mono (by omega))
  clear a0 a1 a2 a3 hb1 HCK hg0 hg1 HB0
  by_cases hE : E = 0
  · subst hE
    have HIE : Hid (R = if ¬ (0 ≤ x ∧ x < (M : Int)) then 120 else 0) := by show _ = _; rw [HIE.out, if_neg (by simp)]
    by_cases c1 : x < 0
    · obtain rfl : R = 120 := by rw [HIE.out, if_pos (by omega)]
      go_wp2_with fail
      go_ret
      exact ⟨rfl, HB1.out⟩
    · by_cases c2 : (M : Int) ≤ x
      · obtain rfl : R = 120 := by rw [HIE.out, if_pos (by omega)]
        go_wp2_with fail
        go_ret
        exact ⟨rfl, HB1.out⟩
      · obtain rfl : R = 0 := by rw [HIE.out, if_neg (by omega)]
        go_wp2_with fail
        go_ret
        exact ⟨rfl, HB1.out⟩
  · have e1 : (E != 0) = true := by simpa using hE
    obtain rfl : R = E := by rw [HIE.out, if_pos hE]
    go_wp2_with fail
    go_ret
    exact ⟨rfl, HB1.out⟩
set_option maxRecDepth 100000 in
set_option maxHeartbeats 1600000 in
theorem rin_any (ba : Option Addr) (bs : List Int) (bc : Nat) (ca : Option Addr) (C : List Cl) (cc : Nat) (j : Nat) (q : Int) (w : World) (hj : j < C.length) (hC : C.length ≤ 5) (hx : (cl C j).xs.length ≤ 1024) (hR : Rws w ca C) :
    Calls Tryz.prog 70 #[.agg #[.slice ba bs.length bc, .slice ca C.length cc], .int .i64 ((j : Int) + 1), .int .i64 q] w fun e w' => ∃ g, e = .returned (.slice (some ⟨g, 0, none⟩) (cl C j).xs.length (cl C j).xs.length) ∧ w.heap.size ≤ g ∧ TbV w' g (cl C j).xs.length 4 (boV (fun v => decide ((cl C j).xs.getD v 0 = q))) ∧ Below w.heap.size w w' := by
  have hb0 : Below w.heap.size w (w.alloc (.cells #[.slice ba bs.length bc, .slice ca C.length cc] 28)) := (Below.refl _ _).alloc (Nat.le_refl _) _
  have hg := heap_top w (.cells #[.slice ba bs.length bc, .slice ca C.length cc] 28)
  obtain ⟨⟨c0, c1⟩, _⟩ := two_cells hg
  obtain ⟨bx, ox, hbx⟩ := hR.get
  obtain ⟨rfl, hbl, hcell⟩ := hbx (by omega)
  have d0 := (hb0.cell (p := ⟨bx, ox + j, none⟩) hbl).trans (hcell j hj)
  unfold Cl.val at d0
  have hI := (hR.2 j hj).1
  obtain ⟨L, va, vc, HLL, HVA, HVC⟩ : ∃ L va vc, Hid ((cl C j).xs = L) ∧ Hid ((cl C j).a = va) ∧ Hid ((cl C j).c = vc) := ⟨_, _, _, rfl, rfl, rfl⟩
  rw [HLL.out, HVA.out, HVC.out] at d0
  rw [HLL.out, HVA.out] at hI
  rw [HLL.out] at hx
  rw [HLL.out]
  obtain ⟨n, HN⟩ := named L.length
  rw [HN.out] at d0 hx
  rw [HN.out]
  obtain ⟨ix, ox2, hix⟩ := hI.get
  rw [HN.out] at hix
  have HIX := Lib.hid hix
  obtain ⟨i4, hi4, hz4, hs4, hby4⟩ := info_parts info4
  have hmk : ∀ w, (Instr.makeSlice 113 (.int .i64 n) (.int .i64 n)).run Tryz.prog w = .ok (.slice (some ⟨w.heap.size, 0, none⟩) n n) (w.alloc (.cells ((List.range n).map (fun _ => Value.bool false)).toArray 4)) := fun w => by
    have := run_make (P := Tryz.prog) w 113 4 i4 (.bool false) Tryz.underlying113 hi4 hz4 .i64 .i64 n n (by omega) (by omega) (by rw [hby4]; omega) (by omega)
    rw [hs4] at this
    rw [this, Int.toNat_natCast, made_bool]
  have HB0 := Lib.hid hb0
  have hj' : (j : Int) < C.length := by omega
  have ej : (j : Int) + 1 - 1 = j := by omega
  clear hcell hbx hb0 hg hR hI hix
  generalize hp : w.heap.size = p at *
  go_enter Tryz.func70, Tryz.ntmps70
  go_wp2_with fail
  have hw1 : (w.alloc (.cells #[.slice ba bs.length bc, .slice (some ⟨bx, ox, none⟩) C.length cc] 28)).heap.size = p + 1 := by simp [hp]
  generalize hW : (w.alloc (.cells #[.slice ba bs.length bc, .slice (some ⟨bx, ox, none⟩) C.length cc] 28)) = W at *
  clear hW
  have HT0 : Hid (TbV (W.alloc (.cells ((List.range n).map (fun _ => Value.bool false)).toArray 4)) (p + 1) n 4 (boV (fun v => decide (v < 0 ∧ L.getD v 0 = q)))) := by
    have h := heap_top W (.cells ((List.range n).map (fun _ => Value.bool false)).toArray 4)
    rw [hw1] at h
    show TbV _ _ _ _ _
    unfold TbV
    rw [h]
    congr 3
  have HB1 : Hid (Below p w (W.alloc (.cells ((List.range n).map (fun _ => Value.bool false)).toArray 4))) := HB0.out.alloc (by omega) _
  generalize W.alloc (.cells ((List.range n).map (fun _ => Value.bool false)).toArray 4) = V at *
  clear c0 c1 d0 HB0 hw1 hmk
  go_loopw [9] (fun i wr => ∃ (k : Nat), k ≤ n ∧ i = .int .i64 k ∧ Hid (TbV wr (p + 1) n 4 (boV (fun v => decide (v < k ∧ L.getD v 0 = q)))) ∧ Hid (Below p w wr)) (fun i _ => n - (intOf i).toNat)
  case atStart => exact ⟨0, Nat.zero_le _, rfl, HT0, HB1⟩
  case round =>
    obtain ⟨k, hk, rfl, HT, HBR⟩ := hrel
    by_cases hlk : k < n
    · have hlk' : (k : Int) < n := by omega
      obtain ⟨rfl, hbl3, hat⟩ := HIX.out (by omega)
      have y0 := (HBR.out.cell (p := ⟨ix, ox2 + k, none⟩) (hp ▸ hbl3)).trans (hat k hlk)
      obtain ⟨y, HY⟩ := named (L.getD k 0)
      rw [HY.out] at y0
      have q0 := HT.out.free k
      have r0 := HT.out.cell hlk
      have HTN : Hid (TbV (wr.setCell ⟨p + 1, k, none⟩ (.bool (y == q))) (p + 1) n 4 (boV (fun v => decide (v < k + 1 ∧ L.getD v 0 = q)))) := (HT.out.set k _).congr (fun v _ => by
        rw [boV_set]
        show Value.bool _ = Value.bool _
        dsimp only
        by_cases e : v = k
        · subst e
          rw [if_pos rfl, HY.out]
          by_cases h : y = q
          · simp [h]
          · have : (y == q) = false := by simpa using h
            rw [this, decide_eq_false (fun h2 => h h2.2)]
        · rw [if_neg e]
          congr 1
          rw [decide_eq_decide]
          constructor <;> rintro ⟨h1, h2⟩ <;> exact ⟨by omega, h2⟩)
      have HBN : Hid (Below p w (wr.setCell ⟨p + 1, k, none⟩ (.bool (y == q)))) := HBR.out.setCell (p := ⟨p + 1, k, none⟩) (by simp) _
      clear hat
      go_wp2_with fail
      exact ⟨⟨k + 1, by omega, by simp, HTN, HBN⟩, by simp [intOf]; omega⟩
    · have hlk' : ¬ (k : Int) < n := by omega
      have HTF : Hid (TbV wr (p + 1) n 4 (boV (fun v => decide (L.getD v 0 = q)))) := HT.out.congr (fun v hv => by
        show Value.bool _ = Value.bool _
        congr 1
        rw [decide_eq_decide]
        exact ⟨fun h => h.2, fun h => ⟨by omega, h⟩⟩)
      go_wp2_with fail
      go_ret
      exact ⟨p + 1, rfl, by omega, HTF.out, HBR.out⟩
end Go.Proofs.YtpmjbeiclmllmaaGreat
namespace Go.Proofs.YtpmjbeiclmllmaaGreat
open Go.RowKit
/-- The numbers below k that are marked. -/
def allk (F : Nat → Bool) (k : Nat) : List Nat := (List.range k).filter F
theorem allk_succ (F : Nat → Bool) (k : Nat) : allk F (k + 1) = if F k = true then allk F k ++ [k] else allk F k := by
  unfold allk
  rw [List.range_succ, List.filter_append]
  by_cases h : F k = true
  · rw [if_pos h]; simp [h]
  · rw [if_neg h]; simp [h]
theorem allk_len (F : Nat → Bool) (k : Nat) : (allk F k).length ≤ k := Nat.le_trans (List.length_filter_le _ _) (by simp)
set_option maxHeartbeats 800000 in
theorem rall_any {w : World} {b n : Nat} {F : Nat → Bool} (hn : n ≤ 1024) (ht : TbV w b n 4 (fun u => .bool (F u))) :
    Calls Tryz.prog 82 #[.slice (some ⟨b, 0, none⟩) n n] w fun e w' => ∃ v, e = .returned v ∧ w'.ownsRow w.heap.size 3 1 v (allk F n).length (cellsI (ints (allk F n))) ∧ Below w.heap.size w w' := by
  obtain ⟨i3, hi3, hz3, hs3, hby3⟩ := info_parts info3
  have HT := Lib.hid ht
  clear ht
  generalize hX : w = X at *
  clear hX
  go_enter Tryz.func82, Tryz.ntmps82
  go_wp2_with fail
  go_loopw [3, 4] (fun s3 i wr => ∃ (k : Nat) (av : Option Addr) (cv len : Nat), k ≤ n ∧ s3 = .slice av len cv ∧ i = .int .i64 k ∧ Hid ((allk F k).length = len) ∧ Hid (wr.ownsRow X.heap.size 3 1 (.slice av len cv) len (cellsI (ints (allk F k)))) ∧ Hid (Below X.heap.size X wr)) (fun _ i _ => n - (intOf i).toNat)
  case atStart => exact ⟨0, none, 0, 0, Nat.zero_le _, rfl, rfl, rfl, World.ownsRow_nil _ _ _ _, Below.refl _ _⟩
  case round =>
    obtain ⟨k, av, cv, len, hkn, rfl, rfl, HLEN, HOW, HBX⟩ := hrel
    have hlenk : len ≤ k := by rw [← HLEN.out]; exact allk_len _ _
    by_cases hlt : k < n
    · have hlt2 : (k : Int) < n := by omega
      have d1 := (HBX.out.cell (p := ⟨b, k, none⟩) HT.out.lt).trans (HT.out.cell hlt)
      obtain ⟨be, HBE⟩ := named (F k)
      rw [HBE.out] at d1
      have HRS := Lib.hid (allk_succ F k)
      rw [HBE.out] at HRS
      cases be
      · have e := HRS.out
        rw [if_neg (by simp)] at e
        have HEE := Lib.hid e
        clear e
        go_wp2_with fail
        exact ⟨⟨k + 1, av, cv, len, by omega, rfl, by simp, by show _ = _; rw [HEE.out]; exact HLEN.out, by rw [HEE.out]; exact HOW, HBX⟩, by simp [intOf]; omega⟩
      · have HNW := Lib.hid (one_new wr (k : Int))
        have HO2 := Lib.hid (HOW.out.alloc (.cells #[.int .i64 (k : Int)] 3))
        have HBZ : Hid (X.heap.size ≤ (wr.alloc (.cells #[.int .i64 (k : Int)] 3)).heap.size) := by
          show _ ≤ _
          rw [World.size_alloc]
          exact Nat.le_succ_of_le HBX.out.size
        go_wp2_with (at_builtin; refine wpList_append_own _ rfl (.tmp 15) (.tmp 17) 25 rfl X.heap.size 3 i3 (.int .i64 0) 1 8 Tryz.underlying25 hi3 hz3 hs3 hby3 rfl (by decide) (.slice av len cv) len (cellsI (ints (allk F k))) rfl HO2.out ⟨wr.heap.size, 0, none⟩ 1 1 [.int .i64 (k : Int)] rfl rfl HNW.out (one_i64 _) (by unfold maxLen; omega) (by omega) HBZ.out ?_; intro v6 w6 hown6 hgrow6 hnil6; obtain ⟨g6, c6, hv6, _, _, _, _⟩ := own_shape hown6 (fun e => by have := hnil6.1 e; simp at this); subst hv6; have HOB6 : Hid (∀ b, (Value.slice av len cv).ownBlock = some b → X.heap.size ≤ b) := fun b hb => (HO2.out.lt b hb).1; have HB6 : Hid (Below X.heap.size X w6) := (HBX.out.alloc HBX.out.size _).grown hgrow6 (HBX.out.alloc HBX.out.size _).size (fun j hj => HOB6.out j hj); have HO6 := Lib.hid hown6; clear hown6 hgrow6 hnil6)
        have e := HRS.out
        rw [if_pos (by rfl)] at e
        refine ⟨⟨k + 1, some ⟨g6, 0, none⟩, c6, len + 1, by omega, rfl, by simp, ?_, ?_, HB6⟩, by simp [intOf]; omega⟩
        · show _ = _
          rw [e, List.length_append, HLEN.out]; rfl
        · rw [e, ints_snoc, ← cellsI_snoc]; exact HO6
    · obtain rfl : k = n := by omega
      have hlt2 : ¬ (k : Int) < k := by omega
      go_wp2_with fail
      go_ret
      exact ⟨.slice av len cv, rfl, by rw [HLEN.out]; exact HOW.out, HBX.out⟩
end Go.Proofs.YtpmjbeiclmllmaaGreat
namespace Go.Proofs.YtpmjbeiclmllmaaGreat
open Go.RowKit
theorem cho_add {p q r : Nat → Bool} : ∀ {k : Nat}, (∀ v, v < k → p v = (q v || r v)) → (∀ v, v < k → ¬ (q v = true ∧ r v = true)) → (cho p k).length = (cho q k).length + (cho r k).length
  | 0, _, _ => rfl
  | k + 1, h1, h2 => by
    have ih := cho_add (p := p) (q := q) (r := r) (k := k) (fun v hv => h1 v (by omega)) (fun v hv => h2 v (by omega))
    have e1 := h1 k (by omega)
    have e2 := h2 k (by omega)
    cases hq : q k <;> cases hr : r k
    · rw [hq, hr] at e1
      rw [cho_f e1, cho_f hq, cho_f hr]; exact ih
    · rw [hq, hr] at e1
      rw [cho_t e1, cho_f hq, cho_t hr, List.length_append, List.length_append, ih]; simp; omega
    · rw [hq, hr] at e1
      rw [cho_t e1, cho_t hq, cho_f hr, List.length_append, List.length_append, ih]; simp; omega
    · exact absurd ⟨hq, hr⟩ e2
theorem cho_all {p : Nat → Bool} : ∀ {k : Nat}, (∀ v, v < k → p v = true) → (cho p k).length = k
  | 0, _ => rfl
  | k + 1, h => by
    rw [cho_t (h k (by omega)), List.length_append, cho_all (fun v hv => h v (by omega))]
    rfl
theorem arL_mem {l : List A} {p : A → Bool} {i : Nat} : i ∈ arL l p ↔ i < l.length ∧ p (l.getD i A.zero) = true := by unfold arL; rw [cho_mem]; rfl
/-- Arcs between cells, or inside one of the first. -/
def upC (L : List Int) (c : Nat) (x : A) : Bool := prt L x || decide (lb L x.f = lb L x.t ∧ lb L x.f < (c : Int))
/-- How many these are. -/
def smC (l : List A) (L : List Int) (c : Nat) : Nat := (arL l (upC L c)).length
theorem smC_zero {n : Nat} {l : List A} {L : List Int} (hC : chkE n l = 0) (hL : ∀ v, v < n → 0 ≤ L.getD v 0) : smC l L 0 = (arL l (prt L)).length := by
  unfold smC arL
  congr 1
  refine cho_congr (fun i hi => ?_)
  obtain ⟨⟨f0, f1⟩, t0, t1⟩ := chk_in hC hi
  unfold arP upC
  have := hL (l.getD i A.zero).f.toNat (by omega)
  rw [decide_eq_false (by unfold lb; omega), Bool.or_false]
theorem smC_step (l : List A) (L : List Int) (c : Nat) : smC l L (c + 1) = smC l L c + (arL l (hld L c)).length := by
  unfold smC arL
  refine cho_add (fun i hi => ?_) (fun i hi => ?_)
  · unfold arP upC hld prt
    generalize lb L (l.getD i A.zero).f = x
    generalize lb L (l.getD i A.zero).t = y
    rw [Bool.eq_iff_iff]
    simp only [Bool.or_eq_true, decide_eq_true_eq]
    omega
  · unfold arP upC hld prt
    generalize lb L (l.getD i A.zero).f = x
    generalize lb L (l.getD i A.zero).t = y
    simp only [Bool.or_eq_true, decide_eq_true_eq]
    omega
theorem smC_end {n : Nat} {l : List A} {L : List Int} {m : Nat} (hC : chkE n l = 0) (hL : ∀ v, v < n → L.getD v 0 < (m : Int)) : smC l L m = l.length := by
  unfold smC arL
  refine cho_all (fun i hi => ?_)
  obtain ⟨⟨f0, f1⟩, t0, t1⟩ := chk_in hC hi
  have h1 := hL (l.getD i A.zero).f.toNat (by omega)
  have h2 := hL (l.getD i A.zero).t.toNat (by omega)
  unfold arP upC prt
  unfold lb
  simp only [Bool.or_eq_true, decide_eq_true_eq]
  omega
/-- Arcs between a cell's children, or inside one of the first of them. -/
def upK (L M : List Int) (q : Int) (ch : List Nat) (t : Nat) (x : A) : Bool := btP L M q x || (hld L q x && decide (lb M x.f = lb M x.t) && ((ints ch).take t).contains (lb M x.f))
def smK (l : List A) (L M : List Int) (q : Int) (ch : List Nat) (t : Nat) : Nat := (arL l (upK L M q ch t)).length
theorem smK_zero (l : List A) (L M : List Int) (q : Int) (ch : List Nat) : smK l L M q ch 0 = (arL l (btP L M q)).length := by
  unfold smK arL
  congr 1
  refine cho_congr (fun i hi => ?_)
  unfold arP upK
  simp
/-- What is a child: a cell whose vertices lie in the cell. -/
structure Kid (n : Nat) (L M : List Int) (q : Int) (ch : List Nat) : Prop where
  inn : ∀ k ∈ ch, ∀ v, v < n → M.getD v 0 = (k : Int) → L.getD v 0 = q
  all : ∀ v, v < n → L.getD v 0 = q → M.getD v 0 ∈ ints ch
  up : ch.Pairwise (· < ·)
theorem take_snocZ {S : List Nat} {k : Nat} (h : k < S.length) : (ints S).take (k + 1) = (ints S).take k ++ [((S.getD k 0 : Nat) : Int)] := by
  have := take_snocI (xs := ints S) (k := k) (by rw [ints_len]; exact h)
  rw [ints_getD h] at this
  exact this
theorem smK_step {n : Nat} {l : List A} {L M : List Int} {q : Int} {ch : List Nat} (hC : chkE n l = 0) (hK : Kid n L M q ch) {t : Nat} (ht : t < ch.length) : smK l L M q ch (t + 1) = smK l L M q ch t + (arL l (hld M ((ch.getD t 0 : Nat) : Int))).length := by
  unfold smK arL
  have hnd : ¬ ((ch.getD t 0 : Nat) : Int) ∈ (ints ch).take t := by
    intro h
    have h1 := nodup_at hK.up ht
    rw [List.contains_iff_mem] at h1
    have e : (ints ch).take t = ints (ch.take t) := by simp [ints, List.map_take]
    rw [e] at h
    exact h1 (ints_mem.1 h)
  refine cho_add (fun i hi => ?_) (fun i hi => ?_)
  · obtain ⟨⟨f0, f1⟩, t0, t1⟩ := chk_in hC hi
    have h1 := hK.inn _ (getN_mem ht) (l.getD i A.zero).f.toNat (by omega)
    have h2 := hK.inn _ (getN_mem ht) (l.getD i A.zero).t.toNat (by omega)
    unfold arP upK
    rw [take_snocZ ht]
    unfold hld
    unfold lb
    generalize btP L M q (l.getD i A.zero) = B
    generalize M.getD (l.getD i A.zero).f.toNat 0 = mf at *
    generalize M.getD (l.getD i A.zero).t.toNat 0 = mt at *
    generalize L.getD (l.getD i A.zero).f.toNat 0 = lf at *
    generalize L.getD (l.getD i A.zero).t.toNat 0 = lt at *
    generalize ((ch.getD t 0 : Nat) : Int) = c at *
    rw [Bool.eq_iff_iff]
    simp only [Bool.or_eq_true, Bool.and_eq_true, decide_eq_true_eq, List.contains_iff_mem, List.mem_append, List.mem_singleton]
    constructor
    · rintro (h | ⟨⟨⟨h3, h4⟩, h5⟩, h6 | h6⟩)
      · exact .inl (.inl h)
      · exact .inl (.inr ⟨⟨⟨h3, h4⟩, h5⟩, h6⟩)
      · exact .inr ⟨h6, by omega⟩
    · rintro ((h | ⟨⟨⟨h3, h4⟩, h5⟩, h6⟩) | ⟨h7, h8⟩)
      · exact .inl h
      · exact .inr ⟨⟨⟨h3, h4⟩, h5⟩, .inl h6⟩
      · exact .inr ⟨⟨⟨h1 h7, h2 h8⟩, by omega⟩, .inr h7⟩
  · unfold arP upK btP hld prt
    simp only [Bool.or_eq_true, Bool.and_eq_true, decide_eq_true_eq, List.contains_iff_mem]
    rintro ⟨h | h, h3⟩
    · exact h.2 (by rw [h3.1, h3.2])
    · rw [h3.1] at h
      exact hnd h.2
theorem smK_end {n : Nat} {l : List A} {L M : List Int} {q : Int} {ch : List Nat} (hC : chkE n l = 0) (hK : Kid n L M q ch) : smK l L M q ch ch.length = (arL l (hld L q)).length := by
  unfold smK arL
  congr 1
  refine cho_congr (fun i hi => ?_)
  obtain ⟨⟨f0, f1⟩, t0, t1⟩ := chk_in hC hi
  have h1 := hK.all (l.getD i A.zero).f.toNat (by omega)
  unfold arP upK btP hld prt
  rw [List.take_of_length_le (by rw [ints_len]; exact Nat.le_refl _)]
  unfold lb
  generalize M.getD (l.getD i A.zero).f.toNat 0 = mf at *
  generalize M.getD (l.getD i A.zero).t.toNat 0 = mt at *
  generalize L.getD (l.getD i A.zero).f.toNat 0 = lf at *
  generalize L.getD (l.getD i A.zero).t.toNat 0 = lt at *
  rw [Bool.eq_iff_iff]
  simp only [Bool.or_eq_true, Bool.and_eq_true, decide_eq_true_eq, List.contains_iff_mem]
  constructor
  · rintro (h | h)
    · exact h.1
    · exact h.1.1
  · intro h
    by_cases e : mf = mt
    · exact .inr ⟨⟨h, e⟩, h1 h.1⟩
    · exact .inl ⟨h, e⟩
/-- An arc inside a child is inside the cell, and not between. -/
theorem kid_in {n : Nat} {l : List A} {L M : List Int} {q : Int} {ch : List Nat} (hC : chkE n l = 0) (hK : Kid n L M q ch) {k : Nat} (hk : k ∈ ch) {i : Nat} (hi : i ∈ arL l (hld M (k : Int))) : (ints (arL l (hld L q))).contains (i : Int) = true ∧ (ints (arL l (btP L M q))).contains (i : Int) = false := by
  obtain ⟨h1, h2⟩ := arL_mem.1 hi
  obtain ⟨⟨f0, f1⟩, t0, t1⟩ := chk_in hC h1
  unfold hld at h2
  rw [decide_eq_true_eq] at h2
  constructor
  · rw [List.contains_iff_mem]
    refine ints_mem.2 (arL_mem.2 ⟨h1, ?_⟩)
    unfold hld
    rw [decide_eq_true_eq]
    exact ⟨hK.inn k hk _ (by omega) h2.1, hK.inn k hk _ (by omega) h2.2⟩
  · rw [Bool.eq_false_iff, ne_eq, List.contains_iff_mem]
    intro h
    have h3 := (arL_mem.1 (ints_mem.1 h)).2
    unfold btP prt at h3
    rw [Bool.and_eq_true, decide_eq_true_eq] at h3
    exact h3.2 (h2.1.trans h2.2.symm)
/-- The children that Children tells. -/
theorem kid_of {n : Nat} {L M : List Int} {q : Int} (hM : M.length = n) (ht : tdy M 0 = true) (hN : Nst M L) : Kid n L M q (chL M L q) := by
  have hp := ls_right ht
  obtain ⟨h1, h2, h3⟩ := hp
  have hmem : ∀ k, k ∈ chL M L q ↔ k < (lsL M 0 []).length ∧ L.getD ((lsL M 0 []).getD k 0) 0 = q := fun k => by
    unfold chL chT
    simp
  refine ⟨fun k hk v hv e => ?_, fun v hv e => ?_, List.pairwise_lt_range.filter _⟩
  · obtain ⟨h4, h5⟩ := (hmem k).1 hk
    obtain ⟨h6, h7, _⟩ := h2 k h4
    rw [← h5]
    exact hN _ (by omega) _ h6 (e.trans h7.symm)
  · obtain ⟨h4, h5⟩ := h3 v (by omega)
    obtain ⟨y, hy⟩ : ∃ y : Nat, M.getD v 0 = y := ⟨(M.getD v 0).toNat, by omega⟩
    rw [hy, Int.toNat_natCast] at h5
    rw [hy]
    obtain ⟨h6, h7, _⟩ := h2 y h5
    refine ints_mem.2 ((hmem y).2 ⟨h5, ?_⟩)
    rw [← e]
    exact hN _ h6 _ (by omega) (h7.trans hy.symm)
end Go.Proofs.YtpmjbeiclmllmaaGreat
namespace Go.Proofs.YtpmjbeiclmllmaaGreat
open Go.RowKit
/-- A vertex of a cell with an arc out of it, or into it, among the first. -/
def edP (L : List Int) (q : Int) (x : A) (v : Nat) : Bool := (decide (lb L x.f = q) && !decide (lb L x.t = q) && decide (x.f.toNat = v)) || (decide (lb L x.t = q) && !decide (lb L x.f = q) && decide (x.t.toNat = v))
def edM (L : List Int) (q : Int) (l : List A) (k v : Nat) : Bool := (l.take k).any (fun x => edP L q x v)
theorem edM_step {L : List Int} {q : Int} {l : List A} {k : Nat} (hk : k < l.length) (v : Nat) : edM L q l (k + 1) v = (edM L q l k v || edP L q (l.getD k A.zero) v) := by
  unfold edM
  rw [take_snocA hk, List.any_append]
  simp only [List.any_cons, List.any_nil, Bool.or_false]
theorem edM_all {L : List Int} {q : Int} {l : List A} (v : Nat) : edM L q l l.length v = bdP L l q v := by
  unfold edM
  rw [List.take_length, Bool.eq_iff_iff]
  unfold bdP
  rw [Bool.and_eq_true, decide_eq_true_eq, crs_iff, List.any_eq_true]
  constructor
  · rintro ⟨x, hx, h⟩
    obtain ⟨i, hi, rfl⟩ := memA_get hx
    unfold edP at h
    simp only [Bool.or_eq_true, Bool.and_eq_true, Bool.not_eq_true', decide_eq_true_eq, decide_eq_false_iff_not] at h
    rcases h with ⟨⟨h1, h2⟩, h3⟩ | ⟨⟨h1, h2⟩, h3⟩
    · refine ⟨by rw [← h3]; exact h1, i, hi, ?_, .inl h3⟩
      unfold prt
      rw [decide_eq_true_eq]
      exact fun e => h2 (e ▸ h1)
    · refine ⟨by rw [← h3]; exact h1, i, hi, ?_, .inr h3⟩
      unfold prt
      rw [decide_eq_true_eq]
      exact fun e => h2 (e.symm ▸ h1)
  · rintro ⟨h0, i, hi, h1, h2⟩
    refine ⟨_, getA_mem hi, ?_⟩
    unfold prt at h1
    rw [decide_eq_true_eq] at h1
    unfold edP
    simp only [Bool.or_eq_true, Bool.and_eq_true, Bool.not_eq_true', decide_eq_true_eq, decide_eq_false_iff_not]
    rcases h2 with h2 | h2
    · left
      have h3 : lb L (l.getD i A.zero).f = q := by unfold lb; rw [h2]; exact h0
      exact ⟨⟨h3, fun e => h1 (h3.trans e.symm)⟩, h2⟩
    · right
      have h3 : lb L (l.getD i A.zero).t = q := by unfold lb; rw [h2]; exact h0
      exact ⟨⟨h3, fun e => h1 (e.trans h3.symm)⟩, h2⟩
set_option maxRecDepth 100000 in
set_option maxHeartbeats 1600000 in
theorem redge_any (n : Nat) (a : Option Addr) (l : List A) (cap : Nat) (ba : Option Addr) (bs : List Int) (bc : Nat) (ca : Option Addr) (C : List Cl) (cc : Nat) (j : Nat) (q : Int) (w : World) (hC : chkE n l = 0) (hj : j < C.length) (hC5 : C.length ≤ 5) (hLn : (cl C j).xs.length = n) (hr : Arcs w a l) (hR : Rws w ca C) :
    Calls Tryz.prog 69 #[.agg #[.int .i64 n, .slice a l.length cap], .agg #[.slice ba bs.length bc, .slice ca C.length cc], .int .i64 ((j : Int) + 1), .int .i64 q] w fun e w' => ∃ v c, e = .returned (.slice v (bdL n (cl C j).xs l q).length c) ∧ w'.ownsRow w.heap.size 3 1 (.slice v (bdL n (cl C j).xs l q).length c) (bdL n (cl C j).xs l q).length (cellsI (ints (bdL n (cl C j).xs l q))) ∧ Below w.heap.size w w' := by
  obtain ⟨hg0, hg1, hb0, hsz⟩ := top2 w (.cells #[.int .i64 n, .slice a l.length cap] 24) (.cells #[.slice ba bs.length bc, .slice ca C.length cc] 28)
  obtain ⟨⟨a0, a1⟩, _⟩ := two_cells hg0
  obtain ⟨⟨a2, a3⟩, _⟩ := two_cells hg1
  have hn8 : n ≤ 1024 := by have := (chk_zero hC).2.1; omega
  have hl8 : l.length ≤ 8192 := (chk_zero hC).2.2.1
  have HIN := Lib.hid (rin_any ba bs bc ca C cc j q _ hj hC5 (by omega) (hR.on hb0))
  have HCK := Lib.hid hC
  have HLn := Lib.hid hLn
  obtain ⟨L, HLL⟩ := named (cl C j).xs
  rw [HLL.out] at HIN HLn
  rw [HLL.out]
  rw [HLn.out] at HIN
  have HB0 := Lib.hid hb0
  have HG0 := Lib.hid hg0
  obtain ⟨ix, ox, hix⟩ := hr.get
  have HIX := Lib.hid hix
  obtain ⟨i4, hi4, hz4, hs4, hby4⟩ := info_parts info4
  have hmk : ∀ w, (Instr.makeSlice 113 (.int .i64 n) (.int .i64 n)).run Tryz.prog w = .ok (.slice (some ⟨w.heap.size, 0, none⟩) n n) (w.alloc (.cells ((List.range n).map (fun _ => Value.bool false)).toArray 4)) := fun w => by
    have := run_make (P := Tryz.prog) w 113 4 i4 (.bool false) Tryz.underlying113 hi4 hz4 .i64 .i64 n n (by omega) (by omega) (by rw [hby4]; omega) (by omega)
    rw [hs4] at this
    rw [this, Int.toNat_natCast, made_bool]
  clear hr hR hC hLn hb0 hg0 hg1 hix hC5 hj
  generalize hp : w.heap.size = p at *
  go_enter Tryz.func69, Tryz.ntmps69
  go_wp2_with fail
  generalize hW : (w.alloc (.cells #[.int .i64 n, .slice a l.length cap] 24)).alloc (.cells #[.slice ba bs.length bc, .slice ca C.length cc] 28) = W at *
  clear hW
  refine HIN.out.mono ?_
  rintro e w1 ⟨gi, rfl, hgi, hTI, hb1⟩
  have hgl : gi < w1.heap.size := hTI.lt
  have hz1 := hb1.size
  have HG1 : Hid (w1.heap[p]? = some (.cells #[.int .i64 n, .slice a l.length cap] 24)) := (hb1.block p (by omega)).trans HG0.out
  have HB1 : Hid (Below p w w1) := HB0.out.trans (hb1.mono (by omega))
  have HTI := Lib.hid hTI
  clear a0 a1 a2 a3 hb1 HIN HB0 HG0 hTI
  obtain ⟨⟨a0, a1⟩, _⟩ := two_cells HG1.out
  have HT0 : Hid (TbV (w1.alloc (.cells ((List.range n).map (fun _ => Value.bool false)).toArray 4)) w1.heap.size n 4 (boV (edM L q l 0))) := by
    have h := heap_top w1 (.cells ((List.range n).map (fun _ => Value.bool false)).toArray 4)
    show TbV _ _ _ _ _
    unfold TbV
    rw [h]
    congr 3
  have HBA : Hid (Below p w (w1.alloc (.cells ((List.range n).map (fun _ => Value.bool false)).toArray 4))) := HB1.out.alloc (by omega) _
  have HTJ : Hid (TbV (w1.alloc (.cells ((List.range n).map (fun _ => Value.bool false)).toArray 4)) gi n 4 (boV (fun v => decide (L.getD v 0 = q)))) := HTI.out.same (Below.heap_alloc _ _ _ hgl)
  have HG2 : Hid ((w1.alloc (.cells ((List.range n).map (fun _ => Value.bool false)).toArray 4)).heap[p]? = some (.cells #[.int .i64 n, .slice a l.length cap] 24)) := (Below.heap_alloc _ _ _ (by omega)).trans HG1.out
  go_wp2_with fail
  generalize w1.alloc (.cells ((List.range n).map (fun _ => Value.bool false)).toArray 4) = V at *
  obtain ⟨go, HGO⟩ := named w1.heap.size
  rw [HGO.out] at HT0 hgl
  rw [HGO.out]
  have hpg : p + 2 ≤ go := by rw [← HGO.out]; omega
  have hpi : p + 2 ≤ gi := by omega
  clear a0 a1 hmk HB1 HG1 HTI
  go_loopw [11] (fun i wr => ∃ (k : Nat), k ≤ l.length ∧ i = .int .i64 k ∧ Hid (TbV wr go n 4 (boV (edM L q l k))) ∧ Hid (TbV wr gi n 4 (boV (fun v => decide (L.getD v 0 = q)))) ∧ Hid (wr.heap[p]? = some (.cells #[.int .i64 n, .slice a l.length cap] 24)) ∧ Hid (Below p w wr)) (fun i _ => l.length - (intOf i).toNat)
  case atStart => exact ⟨0, Nat.zero_le _, rfl, HT0, HTJ, HG2, HBA⟩
  case round =>
    clear HT0 HTJ HG2 HBA
    obtain ⟨k, hk, rfl, HTR, HIR, HGR, HBR⟩ := hrel
    have hwr : go < wr.heap.size := HTR.out.lt
    obtain ⟨⟨k0, k1⟩, _⟩ := two_cells HGR.out
    by_cases hlk : k < l.length
    · have hlk' : (k : Int) < l.length := by omega
      obtain ⟨rfl, hbl, hat⟩ := HIX.out (by omega)
      obtain ⟨x0, x1, x2⟩ := hat k hlk
      have y0 := (HBR.out.cell (p := ⟨ix, ox + k * 3, none⟩) (hp ▸ hbl)).trans x0
      have y1 := (HBR.out.cell (p := ⟨ix, ox + k * 3 + 1, none⟩) (hp ▸ hbl)).trans x1
      have y2 := (HBR.out.cell (p := ⟨ix, ox + k * 3 + 2, none⟩) (hp ▸ hbl)).trans x2
      have hin := chk_in HCK.out hlk
      have HST := Lib.hid (edM_step (L := L) (q := q) hlk)
      generalize l.getD k A.zero = x at *
      obtain ⟨xf, xt, xw⟩ := x
      obtain ⟨⟨f0, f1⟩, t0, t1⟩ := hin
      simp only at f0 f1 t0 t1 y0 y1 y2
      obtain ⟨u, rfl⟩ : ∃ u : Nat, xf = u := ⟨xf.toNat, by omega⟩
      obtain ⟨v, rfl⟩ : ∃ v : Nat, xt = v := ⟨xt.toNat, by omega⟩
      have HLU : Hid (lb L (u : Int) = L.getD u 0) := by show _ = _; unfold lb; rw [Int.toNat_natCast]
      have HLV : Hid (lb L (v : Int) = L.getD v 0) := by show _ = _; unfold lb; rw [Int.toNat_natCast]
      have HT3 : Hid (TbV (wr.alloc (.cells #[.int .i64 u, .int .i64 v, .int .u32 xw] 68)) go n 4 (boV (edM L q l k))) := HTR.out.same (Below.heap_alloc _ _ _ hwr)
      have HI3 : Hid (TbV (wr.alloc (.cells #[.int .i64 u, .int .i64 v, .int .u32 xw] 68)) gi n 4 (boV (fun v => decide (L.getD v 0 = q)))) := HIR.out.same (Below.heap_alloc _ _ _ HIR.out.lt)
      have HGG : Hid ((wr.alloc (.cells #[.int .i64 u, .int .i64 v, .int .u32 xw] 68)).heap[p]? = some (.cells #[.int .i64 n, .slice (some ⟨ix, ox, none⟩) l.length cap] 24)) := (Below.heap_alloc _ _ _ (by omega)).trans HGR.out
      have HB3 : Hid (Below p w (wr.alloc (.cells #[.int .i64 u, .int .i64 v, .int .u32 xw] 68))) := HBR.out.alloc (by omega) _
      have HX := Lib.hid (heap_top wr (.cells #[.int .i64 u, .int .i64 v, .int .u32 xw] 68))
      obtain ⟨z0, z1, z2⟩ := three_cells HX.out
      have cF := HI3.out.cell (v := u) (by omega)
      have cT := HI3.out.cell (v := v) (by omega)
      have hu1 : (u : Int) < n := by omega
      have hv1 : (v : Int) < n := by omega
      clear x0 x1 x2 hat
      by_cases h1 : L.getD u 0 = q
      · by_cases h2 : L.getD v 0 = q
        · skip
          have fF : (wr.alloc (.cells #[.int .i64 u, .int .i64 v, .int .u32 xw] 68)).cell? ⟨gi, u, none⟩ = some (.bool true) := cF.trans (by show some (Value.bool (decide (L.getD u 0 = q))) = _; rw [decide_eq_true h1])
          have fT : (wr.alloc (.cells #[.int .i64 u, .int .i64 v, .int .u32 xw] 68)).cell? ⟨gi, v, none⟩ = some (.bool true) := cT.trans (by show some (Value.bool (decide (L.getD v 0 = q))) = _; rw [decide_eq_true h2])
          have HF1 : Hid (lb L (u : Int) = q) := by show _ = _; rw [HLU.out]; exact h1
          have HF2 : Hid (lb L (v : Int) = q) := by show _ = _; rw [HLV.out]; exact h2
          have HTN : Hid (TbV (wr.alloc (.cells #[.int .i64 u, .int .i64 v, .int .u32 xw] 68)) go n 4 (boV (edM L q l (k + 1)))) := HT3.out.congr (fun y _ => by
            show Value.bool _ = Value.bool _
            rw [HST.out]
            unfold edP
            dsimp only
            rw [decide_eq_true HF1.out, decide_eq_true HF2.out]
            simp)
          clear h1 h2 cF cT
          go_wp2_with fail
          exact ⟨⟨k + 1, by omega, by simp, HTN, HI3, HGG, HB3⟩, by simp [intOf]; omega⟩
        · skip
          have fF : (wr.alloc (.cells #[.int .i64 u, .int .i64 v, .int .u32 xw] 68)).cell? ⟨gi, u, none⟩ = some (.bool true) := cF.trans (by show some (Value.bool (decide (L.getD u 0 = q))) = _; rw [decide_eq_true h1])
          have fT : (wr.alloc (.cells #[.int .i64 u, .int .i64 v, .int .u32 xw] 68)).cell? ⟨gi, v, none⟩ = some (.bool false) := cT.trans (by show some (Value.bool (decide (L.getD v 0 = q))) = _; rw [decide_eq_false h2])
          have HF1 : Hid (lb L (u : Int) = q) := by show _ = _; rw [HLU.out]; exact h1
          have HF2 : Hid (¬ lb L (v : Int) = q) := by show ¬ _ = _; rw [HLV.out]; exact h2
          have hss : (wr.setCell ⟨go, u, none⟩ (.bool true)).heap.size = wr.heap.size := by simp
          have q0 := HT3.out.free u
          have r0 := HT3.out.cell (v := u) (by omega)
          have HTS : Hid (TbV (wr.setCell ⟨go, u, none⟩ (.bool true)) go n 4 (boV (edM L q l (k + 1)))) := (HTR.out.set u (.bool true)).congr (fun y _ => by
            rw [boV_set]
            show Value.bool _ = Value.bool _
            rw [HST.out]
            unfold edP
            dsimp only
            rw [decide_eq_true HF1.out, decide_eq_false HF2.out]
            simp only [Int.toNat_natCast]
            by_cases e : y = u
            · rw [if_pos e, decide_eq_true e.symm]; simp
            · have e' : decide (u = y) = false := decide_eq_false (fun h => e h.symm)
              rw [if_neg e, e']; simp)
          have HTN : Hid (TbV ((wr.setCell ⟨go, u, none⟩ (.bool true)).alloc (.cells #[.int .i64 u, .int .i64 v, .int .u32 xw] 68)) go n 4 (boV (edM L q l (k + 1)))) := HTS.out.same (Below.heap_alloc _ _ _ HTS.out.lt)
          have HBN : Hid (Below p w ((wr.setCell ⟨go, u, none⟩ (.bool true)).alloc (.cells #[.int .i64 u, .int .i64 v, .int .u32 xw] 68))) := (HBR.out.setCell (p := ⟨go, u, none⟩) (by show p ≤ go; omega) _).alloc (by rw [hss]; omega) _
          have HIS : Hid (TbV (wr.setCell ⟨go, u, none⟩ (.bool true)) gi n 4 (boV (fun v => decide (L.getD v 0 = q)))) := HIR.out.same (Below.heap_setCell wr ⟨go, u, none⟩ _ gi (by show gi ≠ go; omega))
          have HIN : Hid (TbV ((wr.setCell ⟨go, u, none⟩ (.bool true)).alloc (.cells #[.int .i64 u, .int .i64 v, .int .u32 xw] 68)) gi n 4 (boV (fun v => decide (L.getD v 0 = q)))) := HIS.out.same (Below.heap_alloc _ _ _ HIS.out.lt)
          have HGN : Hid (((wr.setCell ⟨go, u, none⟩ (.bool true)).alloc (.cells #[.int .i64 u, .int .i64 v, .int .u32 xw] 68)).heap[p]? = some (.cells #[.int .i64 n, .slice (some ⟨ix, ox, none⟩) l.length cap] 24)) := (Below.heap_alloc _ _ _ (by rw [hss]; omega)).trans ((Below.heap_setCell wr ⟨go, u, none⟩ _ p (by show p ≠ go; omega)).trans HGR.out)
          have fF2 := (HIN.out.cell (v := u) (by omega)).trans (by show some (Value.bool (decide (L.getD u 0 = q))) = some (Value.bool true); rw [decide_eq_true h1])
          have fT2 := (HIN.out.cell (v := v) (by omega)).trans (by show some (Value.bool (decide (L.getD v 0 = q))) = some (Value.bool false); rw [decide_eq_false h2])
          have hX3 := heap_top (wr.setCell ⟨go, u, none⟩ (.bool true)) (.cells #[.int .i64 u, .int .i64 v, .int .u32 xw] 68)
          rw [hss] at hX3
          obtain ⟨z00, z11, z22⟩ := three_cells hX3
          clear h1 h2 cF cT hX3 hss
          go_wp2_with fail
          exact ⟨⟨k + 1, by omega, by simp, HTN, HIN, HGN, HBN⟩, by simp [intOf]; omega⟩
      · by_cases h2 : L.getD v 0 = q
        · skip
          have fF : (wr.alloc (.cells #[.int .i64 u, .int .i64 v, .int .u32 xw] 68)).cell? ⟨gi, u, none⟩ = some (.bool false) := cF.trans (by show some (Value.bool (decide (L.getD u 0 = q))) = _; rw [decide_eq_false h1])
          have fT : (wr.alloc (.cells #[.int .i64 u, .int .i64 v, .int .u32 xw] 68)).cell? ⟨gi, v, none⟩ = some (.bool true) := cT.trans (by show some (Value.bool (decide (L.getD v 0 = q))) = _; rw [decide_eq_true h2])
          have HF1 : Hid (¬ lb L (u : Int) = q) := by show ¬ _ = _; rw [HLU.out]; exact h1
          have HF2 : Hid (lb L (v : Int) = q) := by show _ = _; rw [HLV.out]; exact h2
          have hss : (wr.setCell ⟨go, v, none⟩ (.bool true)).heap.size = wr.heap.size := by simp
          have q0 := HT3.out.free v
          have r0 := HT3.out.cell (v := v) (by omega)
          have HTS : Hid (TbV (wr.setCell ⟨go, v, none⟩ (.bool true)) go n 4 (boV (edM L q l (k + 1)))) := (HTR.out.set v (.bool true)).congr (fun y _ => by
            rw [boV_set]
            show Value.bool _ = Value.bool _
            rw [HST.out]
            unfold edP
            dsimp only
            rw [decide_eq_false HF1.out, decide_eq_true HF2.out]
            simp only [Int.toNat_natCast]
            by_cases e : y = v
            · rw [if_pos e, decide_eq_true e.symm]; simp
            · have e' : decide (v = y) = false := decide_eq_false (fun h => e h.symm)
              rw [if_neg e, e']; simp)
          have HTN : Hid (TbV ((wr.setCell ⟨go, v, none⟩ (.bool true)).alloc (.cells #[.int .i64 u, .int .i64 v, .int .u32 xw] 68)) go n 4 (boV (edM L q l (k + 1)))) := HTS.out.same (Below.heap_alloc _ _ _ HTS.out.lt)
          have HBN : Hid (Below p w ((wr.setCell ⟨go, v, none⟩ (.bool true)).alloc (.cells #[.int .i64 u, .int .i64 v, .int .u32 xw] 68))) := (HBR.out.setCell (p := ⟨go, v, none⟩) (by show p ≤ go; omega) _).alloc (by rw [hss]; omega) _
          have HIS : Hid (TbV (wr.setCell ⟨go, v, none⟩ (.bool true)) gi n 4 (boV (fun v => decide (L.getD v 0 = q)))) := HIR.out.same (Below.heap_setCell wr ⟨go, v, none⟩ _ gi (by show gi ≠ go; omega))
          have HIN : Hid (TbV ((wr.setCell ⟨go, v, none⟩ (.bool true)).alloc (.cells #[.int .i64 u, .int .i64 v, .int .u32 xw] 68)) gi n 4 (boV (fun v => decide (L.getD v 0 = q)))) := HIS.out.same (Below.heap_alloc _ _ _ HIS.out.lt)
          have HGN : Hid (((wr.setCell ⟨go, v, none⟩ (.bool true)).alloc (.cells #[.int .i64 u, .int .i64 v, .int .u32 xw] 68)).heap[p]? = some (.cells #[.int .i64 n, .slice (some ⟨ix, ox, none⟩) l.length cap] 24)) := (Below.heap_alloc _ _ _ (by rw [hss]; omega)).trans ((Below.heap_setCell wr ⟨go, v, none⟩ _ p (by show p ≠ go; omega)).trans HGR.out)
          have fF2 := (HIN.out.cell (v := u) (by omega)).trans (by show some (Value.bool (decide (L.getD u 0 = q))) = some (Value.bool false); rw [decide_eq_false h1])
          have fT2 := (HIN.out.cell (v := v) (by omega)).trans (by show some (Value.bool (decide (L.getD v 0 = q))) = some (Value.bool true); rw [decide_eq_true h2])
          have hX3 := heap_top (wr.setCell ⟨go, v, none⟩ (.bool true)) (.cells #[.int .i64 u, .int .i64 v, .int .u32 xw] 68)
          rw [hss] at hX3
          obtain ⟨z00, z11, z22⟩ := three_cells hX3
          clear h1 h2 cF cT hX3 hss
          go_wp2_with fail
          exact ⟨⟨k + 1, by omega, by simp, HTN, HIN, HGN, HBN⟩, by simp [intOf]; omega⟩
        · skip
          have fF : (wr.alloc (.cells #[.int .i64 u, .int .i64 v, .int .u32 xw] 68)).cell? ⟨gi, u, none⟩ = some (.bool false) := cF.trans (by show some (Value.bool (decide (L.getD u 0 = q))) = _; rw [decide_eq_false h1])
          have fT : (wr.alloc (.cells #[.int .i64 u, .int .i64 v, .int .u32 xw] 68)).cell? ⟨gi, v, none⟩ = some (.bool false) := cT.trans (by show some (Value.bool (decide (L.getD v 0 = q))) = _; rw [decide_eq_false h2])
          have HF1 : Hid (¬ lb L (u : Int) = q) := by show ¬ _ = _; rw [HLU.out]; exact h1
          have HF2 : Hid (¬ lb L (v : Int) = q) := by show ¬ _ = _; rw [HLV.out]; exact h2
          have HTN : Hid (TbV (wr.alloc (.cells #[.int .i64 u, .int .i64 v, .int .u32 xw] 68)) go n 4 (boV (edM L q l (k + 1)))) := HT3.out.congr (fun y _ => by
            show Value.bool _ = Value.bool _
            rw [HST.out]
            unfold edP
            dsimp only
            rw [decide_eq_false HF1.out, decide_eq_false HF2.out]
            simp)
          clear h1 h2 cF cT
          go_wp2_with fail
          exact ⟨⟨k + 1, by omega, by simp, HTN, HI3, HGG, HB3⟩, by simp [intOf]; omega⟩
    · have hlk' : ¬ (k : Int) < l.length := by omega
      have HTF : Hid (TbV wr go n 4 (fun u => .bool (bdP L l q u))) := HTR.out.congr (fun v _ => by
        show Value.bool _ = Value.bool _
        have e : k = l.length := by omega
        rw [e, edM_all])
      have HAL := Lib.hid (rall_any hn8 HTF.out)
      have HBE : Hid (allk (bdP L l q) n = bdL n L l q) := rfl
      rw [HBE.out] at HAL
      have hwp : p ≤ wr.heap.size := by omega
      go_wp2_with fail
      refine HAL.out.mono ?_
      rintro e w3 ⟨v, rfl, hown, hb3⟩
      obtain ⟨va, vc, rfl⟩ := own_slice hown
      have HO3 := Lib.hid (own_base hown hwp)
      have HB3 : Hid (Below p w w3) := HBR.out.trans (hb3.mono hwp)
      clear hown hb3 HAL
      go_wp2_with fail
      go_ret
      exact ⟨va, vc, rfl, HO3.out, HB3.out⟩
end Go.Proofs.YtpmjbeiclmllmaaGreat
namespace Go.Proofs.YtpmjbeiclmllmaaGreat
open Go.RowKit
theorem own_tb {w : World} {B b n : Nat} {v : Value} {m : Nat} {xs : List Value} {V : Nat → Value} (h : w.ownsRow B 3 1 v m xs) (hT : TbV w b n 4 V) (e : v.ownBlock = some b) : False := by
  rcases h.2 with ⟨rfl, _⟩ | ⟨g, c, cur, rfl, _, hg, _⟩
  · cases e
  · have e1 : g = b := by simpa [Value.ownBlock] using e
    subst e1
    unfold TbV at hT
    rw [hg] at hT
    injection hT with h5
    injection h5 with h6 h7 h8
    exact absurd h7 (by decide)
theorem own_tb2 {w : World} {B b : Nat} {v : Value} {m : Nat} {xs : List Value} {cs : Array Value} (h : w.ownsRow B 3 1 v m xs) (hT : w.heap[b]? = some (.cells cs 24)) (e : v.ownBlock = some b) : False := by
  rcases h.2 with ⟨rfl, _⟩ | ⟨g, c, cur, rfl, _, hg, _⟩
  · cases e
  · have e1 : g = b := by simpa [Value.ownBlock] using e
    subst e1
    rw [hg] at hT
    injection hT with h5
    injection h5 with h6 h7 h8
    exact absurd h7 (by decide)
set_option maxRecDepth 100000 in
set_option maxHeartbeats 1600000 in
theorem rinside_any (n : Nat) (a : Option Addr) (l : List A) (cap : Nat) (ba : Option Addr) (bs : List Int) (bc : Nat) (ca : Option Addr) (C : List Cl) (cc : Nat) (j : Nat) (q : Int) (w : World) (hC : chkE n l = 0) (hj : j < C.length) (hC5 : C.length ≤ 5) (hLn : (cl C j).xs.length = n) (hr : Arcs w a l) (hR : Rws w ca C) :
    Calls Tryz.prog 68 #[.agg #[.int .i64 n, .slice a l.length cap], .agg #[.slice ba bs.length bc, .slice ca C.length cc], .int .i64 ((j : Int) + 1), .int .i64 q] w fun e w' => ∃ v c, e = .returned (.slice v (arL l (hld (cl C j).xs q)).length c) ∧ w'.ownsRow w.heap.size 3 1 (.slice v (arL l (hld (cl C j).xs q)).length c) (arL l (hld (cl C j).xs q)).length (cellsI (ints (arL l (hld (cl C j).xs q)))) ∧ Below w.heap.size w w' := by
  obtain ⟨hg0, hg1, hb0, hsz⟩ := top2 w (.cells #[.int .i64 n, .slice a l.length cap] 24) (.cells #[.slice ba bs.length bc, .slice ca C.length cc] 28)
  obtain ⟨⟨a0, a1⟩, _⟩ := two_cells hg0
  obtain ⟨⟨a2, a3⟩, _⟩ := two_cells hg1
  obtain ⟨i3, hi3, hz3, hs3, hby3⟩ := info_parts info3
  have hn8 : n ≤ 1024 := by have := (chk_zero hC).2.1; omega
  have hl8 : l.length ≤ 8192 := (chk_zero hC).2.2.1
  have HIN := Lib.hid (rin_any ba bs bc ca C cc j q _ hj hC5 (by omega) (hR.on hb0))
  have HCK := Lib.hid hC
  have HLn := Lib.hid hLn
  obtain ⟨L, HLL⟩ := named (cl C j).xs
  rw [HLL.out] at HIN HLn
  rw [HLL.out]
  rw [HLn.out] at HIN
  have HB0 := Lib.hid hb0
  have HG0 := Lib.hid hg0
  obtain ⟨ix, ox, hix⟩ := hr.get
  have HIX := Lib.hid hix
  have HAR : Hid (arL l (hld L q) = cho (arP l (hld L q)) l.length) := rfl
  obtain ⟨Z, HZ⟩ := named (arL l (hld L q))
  rw [HZ.out] at HAR
  rw [HZ.out]
  clear hr hR hC hLn hb0 hg0 hg1 hix hC5 hj HZ
  generalize hp : w.heap.size = p at *
  go_enter Tryz.func68, Tryz.ntmps68
  go_wp2_with fail
  generalize hW : (w.alloc (.cells #[.int .i64 n, .slice a l.length cap] 24)).alloc (.cells #[.slice ba bs.length bc, .slice ca C.length cc] 28) = W at *
  clear hW
  refine HIN.out.mono ?_
  rintro e w1 ⟨gi, rfl, hgi, hTI, hb1⟩
  have hz1 := hb1.size
  have HG1 : Hid (w1.heap[p]? = some (.cells #[.int .i64 n, .slice a l.length cap] 24)) := (hb1.block p (by omega)).trans HG0.out
  have HB1 : Hid (Below p w w1) := HB0.out.trans (hb1.mono (by omega))
  have HTI := Lib.hid hTI
  have hpi : p + 2 ≤ gi := by omega
  clear a0 a1 a2 a3 hb1 HIN HB0 HG0 hTI
  go_wp2_with fail
  go_loopw [10, 11] (fun s i wr => ∃ (k : Nat) (av : Option Addr) (cv : Nat) (S : List Nat), k ≤ l.length ∧ i = .int .i64 k ∧ s = .slice av S.length cv ∧ S.length ≤ k ∧ Hid (cho (arP l (hld L q)) k = S) ∧ Hid (wr.ownsRow p 3 1 (.slice av S.length cv) S.length (cellsI (ints S))) ∧ Hid (TbV wr gi n 4 (boV (fun v => decide (L.getD v 0 = q)))) ∧ Hid (wr.heap[p]? = some (.cells #[.int .i64 n, .slice a l.length cap] 24)) ∧ Hid (Below p w wr)) (fun _ i _ => l.length - (intOf i).toNat)
  case atStart => exact ⟨0, none, 0, [], Nat.zero_le _, rfl, rfl, Nat.zero_le _, rfl, World.ownsRow_nil _ _ _ _, HTI, HG1, HB1⟩
  case round =>
    clear HTI HG1 HB1
    obtain ⟨k, av, cv, S, hk, rfl, rfl, hSk, HS, HOW, HIR, HGR, HBR⟩ := hrel
    have hwr : gi < wr.heap.size := HIR.out.lt
    obtain ⟨⟨k0, k1⟩, _⟩ := two_cells HGR.out
    by_cases hlk : k < l.length
    · have hlk' : (k : Int) < l.length := by omega
      obtain ⟨rfl, hbl, hat⟩ := HIX.out (by omega)
      obtain ⟨x0, x1, x2⟩ := hat k hlk
      have y0 := (HBR.out.cell (p := ⟨ix, ox + k * 3, none⟩) (hp ▸ hbl)).trans x0
      have y1 := (HBR.out.cell (p := ⟨ix, ox + k * 3 + 1, none⟩) (hp ▸ hbl)).trans x1
      have hin := chk_in HCK.out hlk
      have HCT := Lib.hid (cho_t (p := arP l (hld L q)) (k := k))
      have HCF := Lib.hid (cho_f (p := arP l (hld L q)) (k := k))
      have HAP : Hid (arP l (hld L q) k = hld L q (l.getD k A.zero)) := rfl
      rw [HAP.out] at HCT HCF
      generalize l.getD k A.zero = x at *
      obtain ⟨xf, xt, xw⟩ := x
      obtain ⟨⟨f0, f1⟩, t0, t1⟩ := hin
      simp only at f0 f1 t0 t1 y0 y1
      obtain ⟨u, rfl⟩ : ∃ u : Nat, xf = u := ⟨xf.toNat, by omega⟩
      obtain ⟨v, rfl⟩ : ∃ v : Nat, xt = v := ⟨xt.toNat, by omega⟩
      have HHL : Hid (hld L q ⟨(u : Int), (v : Int), xw⟩ = decide (L.getD u 0 = q ∧ L.getD v 0 = q)) := by show _ = _; unfold hld lb; simp only [Int.toNat_natCast]
      rw [HHL.out, HS.out] at HCT HCF
      have cF := HIR.out.cell (v := u) (by omega)
      have cT := HIR.out.cell (v := v) (by omega)
      have hu1 : (u : Int) < n := by omega
      have hv1 : (v : Int) < n := by omega
      have hs8 : S.length ≤ 8192 := by omega
      clear x0 x1 x2 hat
      by_cases h1 : L.getD u 0 = q
      · have fF : wr.cell? ⟨gi, u, none⟩ = some (.bool true) := cF.trans (by show some (Value.bool (decide (L.getD u 0 = q))) = _; rw [decide_eq_true h1])
        by_cases h2 : L.getD v 0 = q
        · have fT : wr.cell? ⟨gi, v, none⟩ = some (.bool true) := cT.trans (by show some (Value.bool (decide (L.getD v 0 = q))) = _; rw [decide_eq_true h2])
          have HS2 := Lib.hid (HCT.out (decide_eq_true ⟨h1, h2⟩))
          have HNW := Lib.hid (one_new wr k)
          have HO3 := Lib.hid ((HOW.out).alloc (.cells #[.int .i64 k] 3))
          have HBZ : Hid (p ≤ (wr.alloc (.cells #[.int .i64 k] 3)).heap.size) := by show _ ≤ _; rw [World.size_alloc]; omega
          have HBB : Hid (Below p w (wr.alloc (.cells #[.int .i64 k] 3))) := (HBR.out).alloc (by omega) _
          have HOL : Hid (∀ b, (Value.slice av S.length cv).ownBlock = some b → p ≤ b) := fun b hb => ((HOW.out).lt b hb).1
          have HCA : Hid (cellsI (ints S) ++ [.int .i64 k] = cellsI (ints (S ++ [k]))) := by show _ = _; rw [ints_snoc, ← cellsI_snoc]
          clear h1 h2 cF cT
          go_wp2_with (at_builtin; refine wpList_append_own _ rfl (.tmp 43) (.tmp 45) 25 rfl p 3 i3 (.int .i64 0) 1 8 Tryz.underlying25 hi3 hz3 hs3 hby3 rfl (by decide) (.slice av S.length cv) S.length (cellsI (ints S)) rfl HO3.out ⟨wr.heap.size, 0, none⟩ 1 1 [.int .i64 (k : Nat)] rfl rfl HNW.out (one_i64 _) (by unfold maxLen; omega) (by omega) HBZ.out ?_; intro v6 w6 hown6 hgrow6 hnil6; obtain ⟨g6, c6, hv6, _, hc6, _, hm6⟩ := own_shape hown6 (fun e => by have := hnil6.1 e; simp at this); subst hv6; rw [HCA.out] at hown6; have h7 : w6.ownsRow p 3 1 (.slice (some ⟨g6, 0, none⟩) (S ++ [k]).length c6) (S ++ [k]).length (cellsI (ints (S ++ [k]))) := (by rw [List.length_append]; exact hown6); have HO7 := Lib.hid h7; have HB6 : Hid (Below p w w6) := HBB.out.grown hgrow6 HBZ.out (fun j hj => HOL.out j hj); clear hown6 hnil6 h7)
          have HI6 : Hid (TbV w6 gi n 4 (boV (fun v => decide (L.getD v 0 = q)))) := HIR.out.same ((hgrow6.block gi (by simp; omega) (fun h => own_tb HOW.out HIR.out h.symm)).trans (Below.heap_alloc _ _ _ HIR.out.lt))
          have HG6 : Hid (w6.heap[p]? = some (.cells #[.int .i64 n, .slice (some ⟨ix, ox, none⟩) l.length cap] 24)) := (hgrow6.block p (by simp; omega) (fun h => by have := own_tb2 HOW.out HGR.out h.symm; exact this)).trans ((Below.heap_alloc _ _ _ (by omega)).trans HGR.out)
          exact ⟨⟨k + 1, some ⟨g6, 0, none⟩, c6, S ++ [k], by omega, by simp, by rw [List.length_append]; rfl, by rw [List.length_append]; simp; omega, HS2, HO7, HI6, HG6, HB6⟩, by simp [intOf]; omega⟩
        · have fT : wr.cell? ⟨gi, v, none⟩ = some (.bool false) := cT.trans (by show some (Value.bool (decide (L.getD v 0 = q))) = _; rw [decide_eq_false h2])
          have HS2 := Lib.hid (HCF.out (decide_eq_false (fun h => h2 h.2)))
          clear h1 h2 cF cT
          go_wp2_with fail
          exact ⟨⟨k + 1, av, cv, S, by omega, by simp, rfl, by omega, HS2, HOW, HIR, HGR, HBR⟩, by simp [intOf]; omega⟩
      · have fF : wr.cell? ⟨gi, u, none⟩ = some (.bool false) := cF.trans (by show some (Value.bool (decide (L.getD u 0 = q))) = _; rw [decide_eq_false h1])
        have HS2 := Lib.hid (HCF.out (decide_eq_false (fun h => h1 h.1)))
        clear h1 cF cT
        go_wp2_with fail
        exact ⟨⟨k + 1, av, cv, S, by omega, by simp, rfl, by omega, HS2, HOW, HIR, HGR, HBR⟩, by simp [intOf]; omega⟩
    · have hlk' : ¬ (k : Int) < l.length := by omega
      obtain rfl : S = Z := by
        rw [HAR.out, ← HS.out]
        congr 1
        omega
      go_wp2_with fail
      go_ret
      exact ⟨av, cv, rfl, HOW.out, HBR.out⟩
end Go.Proofs.YtpmjbeiclmllmaaGreat
namespace Go.Proofs.YtpmjbeiclmllmaaGreat
open Go.RowKit
/-- The first arcs of a list whose ends have unlike labels. -/
def acr (L : List Int) (l : List A) (Z : List Nat) (k : Nat) : List Nat := (Z.take k).filter (fun i => prt L (l.getD i A.zero))
theorem acr_t {L : List Int} {l : List A} {Z : List Nat} {k : Nat} (hk : k < Z.length) (h : prt L (l.getD (Z.getD k 0) A.zero) = true) : acr L l Z (k + 1) = acr L l Z k ++ [Z.getD k 0] := by
  unfold acr
  rw [take_snocN hk, List.filter_append]
  simp only [List.filter_cons, h, if_true, List.filter_nil]
theorem acr_f {L : List Int} {l : List A} {Z : List Nat} {k : Nat} (hk : k < Z.length) (h : prt L (l.getD (Z.getD k 0) A.zero) = false) : acr L l Z (k + 1) = acr L l Z k := by
  unfold acr
  rw [take_snocN hk, List.filter_append]
  simp only [List.filter_cons, h, List.filter_nil]
  simp
set_option maxRecDepth 100000 in
set_option maxHeartbeats 1600000 in
theorem racross_any (n : Nat) (a : Option Addr) (l : List A) (cap : Nat) (ba : Option Addr) (bs : List Int) (bc : Nat) (ca : Option Addr) (C : List Cl) (cc : Nat) (j : Nat) (za : Option Addr) (Z : List Nat) (zc : Nat) (w : World) (hC : chkE n l = 0) (hj : j < C.length) (hC5 : C.length ≤ 5) (hLn : (cl C j).xs.length = n) (hZ : Z.length ≤ 8192) (hZl : ∀ i, i < Z.length → Z.getD i 0 < l.length) (hr : Arcs w a l) (hR : Rws w ca C) (hi : Ints w za (ints Z)) :
    Calls Tryz.prog 80 #[.agg #[.int .i64 n, .slice a l.length cap], .agg #[.slice ba bs.length bc, .slice ca C.length cc], .int .i64 ((j : Int) + 1), .slice za Z.length zc] w fun e w' => ∃ v c, e = .returned (.slice v (acr (cl C j).xs l Z Z.length).length c) ∧ w'.ownsRow w.heap.size 3 1 (.slice v (acr (cl C j).xs l Z Z.length).length c) (acr (cl C j).xs l Z Z.length).length (cellsI (ints (acr (cl C j).xs l Z Z.length))) ∧ Below w.heap.size w w' := by
  obtain ⟨hg0, hg1, hb0, hsz⟩ := top2 w (.cells #[.int .i64 n, .slice a l.length cap] 24) (.cells #[.slice ba bs.length bc, .slice ca C.length cc] 28)
  obtain ⟨i3, hi3, hz3, hs3, hby3⟩ := info_parts info3
  have hn8 : n ≤ 1024 := by have := (chk_zero hC).2.1; omega
  have hl8 : l.length ≤ 8192 := (chk_zero hC).2.2.1
  have HCK := Lib.hid hC
  have HZl := Lib.hid hZl
  obtain ⟨bx, ox, hbx⟩ := hR.get
  obtain ⟨rfl, hbl, hcell⟩ := hbx (by omega)
  have d0 := hcell j hj
  unfold Cl.val at d0
  have hIL := (hR.2 j hj).1
  obtain ⟨L, va, vc, HLL, HVA, HVC⟩ : ∃ L va vc, Hid ((cl C j).xs = L) ∧ Hid ((cl C j).a = va) ∧ Hid ((cl C j).c = vc) := ⟨_, _, _, rfl, rfl, rfl⟩
  rw [hLn, HVA.out, HVC.out] at d0
  rw [HLL.out, HVA.out] at hIL
  rw [HLL.out] at hLn
  rw [HLL.out]
  have HLn := Lib.hid hLn
  obtain ⟨il, ol, hil⟩ := hIL.get
  rw [hLn] at hil
  obtain ⟨ia, oa, hia⟩ := hr.get
  obtain ⟨iz, oz, hiz⟩ := hi.get
  rw [ints_len] at hiz
  have HIL := Lib.hid hil
  have HIA := Lib.hid hia
  have HIZ := Lib.hid hiz
  have HD0 := Lib.hid d0
  have HB0 := Lib.hid hb0
  have HG0 := Lib.hid hg0
  have HG1 := Lib.hid hg1
  obtain ⟨Y, HY⟩ := named (acr L l Z Z.length)
  rw [HY.out]
  have hj' : (j : Int) < C.length := by omega
  have ej : (j : Int) + 1 - 1 = j := by omega
  have ev1 : IntKind.i64.wrap ((j : Int) + 1 - 1) = j := by rw [IntKind.wrap_i64]; omega
  have ev2 : IntKind.i64.wrap (j : Int) = j := by rw [IntKind.wrap_i64]; omega
  have hj0 : (0 : Int) ≤ j := by omega
  clear hcell hbx hr hR hi hIL hil hia hiz hC hLn hZl hb0 hg0 hg1 d0
  generalize hp : w.heap.size = p at *
  go_enter Tryz.func80, Tryz.ntmps80
  go_wp2_with fail
  generalize hW : (w.alloc (.cells #[.int .i64 n, .slice a l.length cap] 24)).alloc (.cells #[.slice ba bs.length bc, .slice (some ⟨bx, ox, none⟩) C.length cc] 28) = W at *
  clear hW
  go_loopw [9, 10] (fun s i wr => ∃ (k : Nat) (av : Option Addr) (cv : Nat) (S : List Nat), k ≤ Z.length ∧ i = .int .i64 k ∧ s = .slice av S.length cv ∧ S.length ≤ k ∧ Hid (acr L l Z k = S) ∧ Hid (wr.ownsRow (p + 2) 3 1 (.slice av S.length cv) S.length (cellsI (ints S))) ∧ Hid (Below (p + 2) W wr)) (fun _ i _ => Z.length - (intOf i).toNat)
  case atStart => exact ⟨0, none, 0, [], Nat.zero_le _, rfl, rfl, Nat.zero_le _, rfl, World.ownsRow_nil _ _ _ _, Below.refl _ _⟩
  case round =>
    obtain ⟨k, av, cv, S, hk, rfl, rfl, hSk, HS, HOW, HBR⟩ := hrel
    have hwz : p + 2 ≤ wr.heap.size := by have := HBR.out.size; omega
    have hbw : Below p w wr := HB0.out.trans (HBR.out.mono (by omega))
    have HBW := Lib.hid hbw
    by_cases hlk : k < Z.length
    · have hlk' : (k : Int) < Z.length := by omega
      have hk0 : (0 : Int) ≤ k := by omega
      obtain ⟨⟨a0, a1⟩, _⟩ := two_cells ((HBR.out.block p (by omega)).trans HG0.out)
      obtain ⟨⟨a2, a3⟩, _⟩ := two_cells ((HBR.out.block (p + 1) (by omega)).trans HG1.out)
      obtain ⟨rfl, hzl, hzat⟩ := HIZ.out (by omega)
      have s0 := (hbw.cell (p := ⟨iz, oz + k, none⟩) (hp ▸ hzl)).trans (hzat k hlk)
      rw [ints_getD hlk] at s0
      have HCT := Lib.hid (acr_t (L := L) (l := l) hlk)
      have HCF := Lib.hid (acr_f (L := L) (l := l) hlk)
      have hil2 := HZl.out k hlk
      obtain ⟨i, HI⟩ := named (Z.getD k 0)
      rw [HI.out] at s0 HCT HCF hil2
      obtain ⟨rfl, hal, hat⟩ := HIA.out (by omega)
      obtain ⟨x0, x1, x2⟩ := hat i hil2
      have y0 := (hbw.cell (p := ⟨ia, oa + i * 3, none⟩) (hp ▸ hal)).trans x0
      have y1 := (hbw.cell (p := ⟨ia, oa + i * 3 + 1, none⟩) (hp ▸ hal)).trans x1
      have y2 := (hbw.cell (p := ⟨ia, oa + i * 3 + 2, none⟩) (hp ▸ hal)).trans x2
      have hin := chk_in HCK.out hil2
      generalize l.getD i A.zero = x at *
      obtain ⟨xf, xt, xw⟩ := x
      obtain ⟨⟨f0, f1⟩, t0, t1⟩ := hin
      simp only at f0 f1 t0 t1 y0 y1 y2
      obtain ⟨u, rfl⟩ : ∃ u : Nat, xf = u := ⟨xf.toNat, by omega⟩
      obtain ⟨v, rfl⟩ : ∃ v : Nat, xt = v := ⟨xt.toNat, by omega⟩
      obtain ⟨rfl, hll, hlat⟩ := HIL.out (by omega)
      have l0 := hlat u (by omega)
      have l1 := hlat v (by omega)
      have HPR : Hid (prt L ⟨(u : Int), (v : Int), xw⟩ = (L.getD u 0 != L.getD v 0)) := by
        show _ = _
        unfold prt lb
        simp only [Int.toNat_natCast]
        exact dec_ne _ _
      obtain ⟨lu, HLU⟩ := named (L.getD u 0)
      obtain ⟨lw, HLV⟩ := named (L.getD v 0)
      rw [HLU.out] at l0
      rw [HLV.out] at l1
      rw [HLU.out, HLV.out] at HPR
      rw [HPR.out] at HCT HCF
      have L0 := Lib.hid l0
      have L1 := Lib.hid l1
      have hid' : (i : Int) < l.length := by omega
      have hid0 : (0 : Int) ≤ i := by omega
      clear x0 x1 x2 hat hlat hzat l0 l1 hbw
      have hbz : Below wr.heap.size wr (wr.alloc (.cells #[.int .i64 0, .int .i64 0, .int .u32 0] 68)) := (Below.refl _ _).alloc (Nat.le_refl _) _
      have s00 := (hbz.cell (p := ⟨iz, oz + k, none⟩) (World.block_lt_of_cell? wr _ s0)).trans s0
      have y00 := (hbz.cell (p := ⟨ia, oa + i * 3, none⟩) (World.block_lt_of_cell? wr _ y0)).trans y0
      have y11 := (hbz.cell (p := ⟨ia, oa + i * 3 + 1, none⟩) (World.block_lt_of_cell? wr _ y1)).trans y1
      have y22 := (hbz.cell (p := ⟨ia, oa + i * 3 + 2, none⟩) (World.block_lt_of_cell? wr _ y2)).trans y2
      have a11 := (hbz.cell (p := ⟨p, 1, none⟩) (World.block_lt_of_cell? wr _ a1)).trans a1
      have S0 := Lib.hid s0
      have A1 := Lib.hid a1
      have A3 := Lib.hid a3
      clear hbz
      go_wp2_with fail
      go_region
      have hGX := heap_top wr (.cells #[.int .i64 u, .int .i64 v, .int .u32 xw] 68)
      have HBV : Hid (Below wr.heap.size wr (wr.alloc (.cells #[.int .i64 u, .int .i64 v, .int .u32 xw] 68)).drew) := ((Below.refl _ _).alloc (Nat.le_refl _) _).drew
      have hGX2 : (wr.alloc (.cells #[.int .i64 u, .int .i64 v, .int .u32 xw] 68)).drew.heap[wr.heap.size]? = some (.cells #[.int .i64 u, .int .i64 v, .int .u32 xw] 68) := hGX
      have HGX := Lib.hid hGX2
      generalize hV : (wr.alloc (.cells #[.int .i64 u, .int .i64 v, .int .u32 xw] 68)).drew = V at *
      clear hV hGX hGX2 s00 y00 y11 y22 a11 y0 y1 y2 s0 a0 a1 a2 a3
      have hbVw : Below p w V := HBW.out.trans (HBV.out.mono (by omega))
      have b3 := (HBV.out.cell (p := ⟨p + 1, 1, none⟩) (by show p + 1 < _; omega)).trans A3.out
      have d0 := (hbVw.cell (p := ⟨bx, ox + j, none⟩) (hp ▸ hbl)).trans HD0.out
      have l0 := (hbVw.cell (p := ⟨il, ol + u, none⟩) (hp ▸ hll)).trans L0.out
      have l1 := (hbVw.cell (p := ⟨il, ol + v, none⟩) (hp ▸ hll)).trans L1.out
      obtain ⟨z0, z1, z2⟩ := three_cells HGX.out
      have S1 : Hid (V.cell? ⟨iz, oz + k, none⟩ = some (.int .i64 i)) := (HBV.out.cell (p := ⟨iz, oz + k, none⟩) (World.block_lt_of_cell? wr _ S0.out)).trans S0.out
      have hu1 : (u : Int) < n := by omega
      have hv1 : (v : Int) < n := by omega
      have hu0 : (0 : Int) ≤ u := by omega
      have hv0 : (0 : Int) ≤ v := by omega
      have hzV := HBV.out.size
      have HBWV : Hid (∀ m, Below (p + 2) W (V.drewN m)) := fun m => (HBR.out.trans (HBV.out.mono hwz)).trans (below_drewN _ _ m)
      have HOWV : Hid (∀ m, (V.drewN m).ownsRow (p + 2) 3 1 (.slice av S.length cv) S.length (cellsI (ints S))) := fun m => own_on (own_on HOW.out HBV.out) (below_drewN _ _ m)
      clear hbVw
      go_wp2_with fail
      go_quiet (fail)
      have HBX := Lib.hid (HBWV.out nq)
      have HOX := Lib.hid (HOWV.out nq)
      have s1 : (V.drewN nq).cell? ⟨iz, oz + k, none⟩ = some (.int .i64 i) := S1.out
      have hzX : wr.heap.size ≤ (V.drewN nq).heap.size := hzV
      generalize V.drewN nq = X at *
      clear b3 d0 l0 l1 z0 z1 z2 HBWV HOWV HGX
      have hs8 : S.length ≤ 8192 := by omega
      cases hb : (lu != lw) with
      | false =>
        have HS2 : Hid (acr L l Z (k + 1) = S) := (HCF.out hb).trans HS.out
        go_wp2_with fail
        exact ⟨⟨k + 1, av, cv, S, by omega, by simp, rfl, by omega, HS2, HOX, HBX⟩, by simp [intOf]; omega⟩
      | true =>
        have HS2 : Hid (acr L l Z (k + 1) = S ++ [i]) := by show _ = _; rw [HCT.out hb, HS.out]
        have HNW := Lib.hid (one_new X i)
        have HO3 := Lib.hid ((HOX.out).alloc (.cells #[.int .i64 i] 3))
        have HBZ : Hid (p + 2 ≤ (X.alloc (.cells #[.int .i64 i] 3)).heap.size) := by show _ ≤ _; rw [World.size_alloc]; omega
        have HBB : Hid (Below (p + 2) W (X.alloc (.cells #[.int .i64 i] 3))) := (HBX.out).alloc (by omega) _
        have HOL : Hid (∀ b, (Value.slice av S.length cv).ownBlock = some b → p + 2 ≤ b) := fun b hb => ((HOX.out).lt b hb).1
        have HCA : Hid (cellsI (ints S) ++ [.int .i64 i] = cellsI (ints (S ++ [i]))) := by show _ = _; rw [ints_snoc, ← cellsI_snoc]
        go_wp2_with (at_builtin; go_must (refine wpList_append_own _ rfl (.tmp 47) (.tmp 52) 25 rfl (p + 2) 3 i3 (.int .i64 0) 1 8 Tryz.underlying25 hi3 hz3 hs3 hby3 rfl (by decide) (.slice av S.length cv) S.length (cellsI (ints S)) rfl HO3.out ⟨X.heap.size, 0, none⟩ 1 1 [.int .i64 (i : Nat)] rfl rfl HNW.out (one_i64 _) (by unfold maxLen; omega) (by omega) HBZ.out ?_; intro v6 w6 hown6 hgrow6 hnil6; obtain ⟨g6, c6, hv6, _, hc6, _, hm6⟩ := own_shape hown6 (fun e => by have := hnil6.1 e; simp at this); subst hv6; rw [HCA.out] at hown6; have h7 : w6.ownsRow (p + 2) 3 1 (.slice (some ⟨g6, 0, none⟩) (S ++ [i]).length c6) (S ++ [i]).length (cellsI (ints (S ++ [i]))) := (by rw [List.length_append]; exact hown6); have HO7 := Lib.hid h7; have HB6 : Hid (Below (p + 2) W w6) := HBB.out.grown hgrow6 HBZ.out (fun j hj => HOL.out j hj); clear hown6 hnil6 h7))
        exact ⟨⟨k + 1, some ⟨g6, 0, none⟩, c6, S ++ [i], by omega, by simp, by rw [List.length_append]; rfl, by rw [List.length_append]; simp; omega, HS2, HO7, HB6⟩, by simp [intOf]; omega⟩
    · have hlk' : ¬ (k : Int) < Z.length := by omega
      obtain rfl : S = Y := by rw [← HY.out, ← HS.out]; congr 1; omega
      have HO9 := Lib.hid (own_base HOW.out (show p ≤ p + 2 by omega))
      go_wp2_with fail
      go_ret
      exact ⟨av, cv, rfl, HO9.out, HBW.out⟩
end Go.Proofs.YtpmjbeiclmllmaaGreat
namespace Go.Proofs.YtpmjbeiclmllmaaGreat
open Go.RowKit
theorem acr_bt (M : List Int) (l : List A) (p : A → Bool) : acr M l (arL l p) (arL l p).length = arL l (fun x => p x && prt M x) := by
  unfold acr
  rw [List.take_length]
  unfold arL cho
  rw [List.filter_filter]
  refine List.filter_congr (fun i _ => ?_)
  unfold arP
  exact Bool.and_comm _ _
/-- What is known of a cell that there is. -/
theorem in_facts {N : Int} {l : List A} {bs : List Int} {C : List Cl} {k x : Int} (h : inE N l bs (csl C) k x = 0) : ∃ n j : Nat, N = n ∧ k = (j : Int) + 1 ∧ chkE n l = 0 ∧ j < C.length ∧ C.length ≤ 5 ∧ (cl C j).xs.length = n ∧ C.length = bs.length ∧ j < bs.length ∧ NR N l bs (csl C) := by
  obtain ⟨hNR, j, q, rfl, hj, rfl, hq⟩ := inE_zero h
  have hcl : C.length = bs.length := by have := hNR.2.2.2.1; rw [csl_len] at this; exact this
  have h1024 := (chk_zero hNR.1).2.1
  have h0N := (chk_zero hNR.1).1
  have h5 := hNR.2.2.1
  obtain ⟨hlv, _, _, _⟩ := hNR.lv hj
  rw [csl_at] at hlv
  obtain ⟨n, hn⟩ : ∃ n : Nat, N = n := ⟨N.toNat, by omega⟩
  exact ⟨n, j, hn, rfl, hn ▸ hNR.1, by omega, by omega, by omega, hcl, hj, hNR⟩
set_option maxRecDepth 100000 in
set_option maxHeartbeats 1600000 in
theorem rinner_any (N : Int) (a : Option Addr) (l : List A) (cap : Nat) (ba : Option Addr) (bs : List Int) (bc : Nat) (ca : Option Addr) (C : List Cl) (cc : Nat) (k x : Int) (w : World) (hl : l.length ≤ 9223372036854775807) (hbl : bs.length ≤ 9223372036854775807) (hr : Arcs w a l) (hi : Ints w ba bs) (hR : Rws w ca C) :
    Calls Tryz.prog 34 #[.agg #[.int .i64 N, .slice a l.length cap], .agg #[.slice ba bs.length bc, .slice ca C.length cc], .int .i64 k, .int .i64 x] w fun e w' => ∃ v c, e = .returned (.tuple #[.slice v (inV N l bs (csl C) k x).length c, .int .i64 (inE N l bs (csl C) k x)]) ∧ Ints w' v (ints (inV N l bs (csl C) k x)) ∧ Below w.heap.size w w' := by
  have hb0 : Below w.heap.size w ((w.alloc (.cells #[.int .i64 N, .slice a l.length cap] 24)).alloc (.cells #[.slice ba bs.length bc, .slice ca C.length cc] 28)) := (top2 w _ _).2.2.1
  have hg0 := (top2 w (.cells #[.int .i64 N, .slice a l.length cap] 24) (.cells #[.slice ba bs.length bc, .slice ca C.length cc] 28)).1
  have hg1 := (top2 w (.cells #[.int .i64 N, .slice a l.length cap] 24) (.cells #[.slice ba bs.length bc, .slice ca C.length cc] 28)).2.1
  have hsz := (top2 w (.cells #[.int .i64 N, .slice a l.length cap] 24) (.cells #[.slice ba bs.length bc, .slice ca C.length cc] 28)).2.2.2
  obtain ⟨⟨a0, a1⟩, _⟩ := two_cells hg0
  obtain ⟨⟨a2, a3⟩, _⟩ := two_cells hg1
  have HB0 := Lib.hid hb0
  have HCK := Lib.hid (rhas_any N a l cap ba bs bc ca C cc k x _ hl hbl (hr.on hb0) (hi.on hb0) (hR.on hb0))
  have HRA := Lib.hid hr
  have HRR := Lib.hid hR
  have HG0 := Lib.hid hg0
  have HG1 := Lib.hid hg1
  obtain ⟨E, HE⟩ := named (inE N l bs (csl C) k x)
  rw [HE.out] at HCK
  rw [HE.out]
  clear hr hi hR hb0
  by_cases h1 : E = 0
  · subst h1
    obtain ⟨n, j, rfl, rfl, hC0, hjC, hC5, hLn, hq1, hq2, hq3⟩ := in_facts HE.out
    clear hq1 hq2 hq3
    have ej : ((j : Int) + 1).toNat - 1 = j := by omega
    have HV : Hid (inV n l bs (csl C) ((j : Int) + 1) x = arL l (hld (cl C j).xs x)) := by show _ = _; unfold inV; rw [if_pos HE.out, ej, csl_at]
    rw [HV.out]
    have HC0 := Lib.hid hC0
    have HLn := Lib.hid hLn
    clear HV HE hC0 hLn
    generalize hp : w.heap.size = p at *
    go_enter Tryz.func34, Tryz.ntmps34
    go_wp2_with fail
    generalize hW : (w.alloc (.cells #[.int .i64 n, .slice a l.length cap] 24)).alloc (.cells #[.slice ba bs.length bc, .slice ca C.length cc] 28) = W at *
    clear hW
    refine HCK.out.mono ?_
    rintro e w1 ⟨rfl, hb1⟩
    have HB1 : Hid (Below p w w1) := HB0.out.trans (hb1.mono (by omega))
    obtain ⟨⟨k0, k1⟩, _⟩ := two_cells ((hb1.block p (by omega)).trans HG0.out)
    obtain ⟨⟨k2, k3⟩, _⟩ := two_cells ((hb1.block (p + 1) (by omega)).trans HG1.out)
    have hw1 : p ≤ w1.heap.size := by have := HB1.out.size; omega
    have HED := Lib.hid (rinside_any n a l cap ba bs bc ca C cc j x w1 HC0.out hjC hC5 HLn.out (HRA.out.on (hp ▸ HB1.out)) (HRR.out.on (hp ▸ HB1.out)))
    obtain ⟨S, HS⟩ := named (arL l (hld (cl C j).xs x))
    rw [HS.out] at HED
    clear a0 a1 a2 a3 hb1 HCK hg0 hg1 HB0 HG0 HG1
    go_wp2_with fail
    refine HED.out.mono ?_
    rintro e w2 ⟨v, c, rfl, hown, hb2⟩
    have HB2 : Hid (Below p w w2) := HB1.out.trans (hb2.mono hw1)
    have HI2 := Lib.hid (own_ints hown rfl)
    clear hown hb2 HED k0 k1 k2 k3
    go_wp2_with fail
    go_ret2
    rw [HS.out]
    exact ⟨v, c, rfl, HI2.out, HB2.out⟩
  · have e1 : (E != 0) = true := by simpa using h1
    have HV : Hid (inV N l bs (csl C) k x = []) := by show _ = _; unfold inV; rw [if_neg (by rw [HE.out]; exact h1)]
    rw [HV.out]
    clear HV HE
    generalize hp : w.heap.size = p at *
    go_enter Tryz.func34, Tryz.ntmps34
    go_wp2_with fail
    generalize hW : (w.alloc (.cells #[.int .i64 N, .slice a l.length cap] 24)).alloc (.cells #[.slice ba bs.length bc, .slice ca C.length cc] 28) = W at *
    clear hW
    refine HCK.out.mono ?_
    rintro e w1 ⟨rfl, hb1⟩
    have HB1 : Hid (Below p w w1) := HB0.out.trans (hb1.mono (by omega))
    clear a0 a1 a2 a3 hb1 HCK hg0 hg1 HB0 HG0 HG1
    go_wp2_with fail
    go_ret2
    exact ⟨none, 0, rfl, Or.inl rfl, HB1.out⟩
set_option maxRecDepth 100000 in
set_option maxHeartbeats 1600000 in
theorem rbetween_any (N : Int) (a : Option Addr) (l : List A) (cap : Nat) (ba : Option Addr) (bs : List Int) (bc : Nat) (ca : Option Addr) (C : List Cl) (cc : Nat) (k x : Int) (w : World) (hl : l.length ≤ 9223372036854775807) (hbl : bs.length ≤ 9223372036854775807) (hr : Arcs w a l) (hi : Ints w ba bs) (hR : Rws w ca C) :
    Calls Tryz.prog 43 #[.agg #[.int .i64 N, .slice a l.length cap], .agg #[.slice ba bs.length bc, .slice ca C.length cc], .int .i64 k, .int .i64 x] w fun e w' => ∃ v c, e = .returned (.tuple #[.slice v (btV N l bs (csl C) k x).length c, .int .i64 (btE N l bs (csl C) k x)]) ∧ Ints w' v (ints (btV N l bs (csl C) k x)) ∧ Below w.heap.size w w' := by
  have hb0 : Below w.heap.size w ((w.alloc (.cells #[.int .i64 N, .slice a l.length cap] 24)).alloc (.cells #[.slice ba bs.length bc, .slice ca C.length cc] 28)) := (top2 w _ _).2.2.1
  have hg0 := (top2 w (.cells #[.int .i64 N, .slice a l.length cap] 24) (.cells #[.slice ba bs.length bc, .slice ca C.length cc] 28)).1
  have hg1 := (top2 w (.cells #[.int .i64 N, .slice a l.length cap] 24) (.cells #[.slice ba bs.length bc, .slice ca C.length cc] 28)).2.1
  have hsz := (top2 w (.cells #[.int .i64 N, .slice a l.length cap] 24) (.cells #[.slice ba bs.length bc, .slice ca C.length cc] 28)).2.2.2
  obtain ⟨⟨a0, a1⟩, _⟩ := two_cells hg0
  obtain ⟨⟨a2, a3⟩, _⟩ := two_cells hg1
  have HB0 := Lib.hid hb0
  have HLK := Lib.hid (rinner_any N a l cap ba bs bc ca C cc k x _ hl hbl (hr.on hb0) (hi.on hb0) (hR.on hb0))
  have HRA := Lib.hid hr
  have HRR := Lib.hid hR
  have HG0 := Lib.hid hg0
  have HG1 := Lib.hid hg1
  obtain ⟨E, HE⟩ := named (inE N l bs (csl C) k x)
  have HIV : Hid (inV N l bs (csl C) k x = if E = 0 then arL l (hld (lvl (csl C) (k.toNat - 1)) x) else []) := by show _ = _; unfold inV; rw [HE.out]
  have HBE : Hid (btE N l bs (csl C) k x = if E ≠ 0 then E else if k = 1 then 111 else 0) := by show _ = _; unfold btE; rw [HE.out]
  obtain ⟨B, HB⟩ := named (btE N l bs (csl C) k x)
  have HBV : Hid (btV N l bs (csl C) k x = if B = 0 then arL l (btP (lvl (csl C) (k.toNat - 1)) (lvl (csl C) (k.toNat - 2)) x) else []) := by show _ = _; unfold btV; rw [HB.out]
  rw [HB.out] at HBE
  rw [HB.out]
  obtain ⟨T, HT⟩ := named (btV N l bs (csl C) k x)
  rw [HT.out] at HBV
  rw [HT.out]
  obtain ⟨Z, HZ⟩ := named (inV N l bs (csl C) k x)
  rw [HZ.out] at HIV
  rw [HE.out, HZ.out] at HLK
  clear hr hi hR hb0 HB HT HZ
  generalize hp : w.heap.size = p at *
  go_enter Tryz.func43, Tryz.ntmps43
  go_wp2_with fail
  generalize hW : (w.alloc (.cells #[.int .i64 N, .slice a l.length cap] 24)).alloc (.cells #[.slice ba bs.length bc, .slice ca C.length cc] 28) = W at *
  clear hW
  refine HLK.out.mono ?_
  rintro e w1 ⟨va, vc, rfl, hI, hb1⟩
  have HB1 : Hid (Below p w w1) := HB0.out.trans (hb1.mono (by omega))
  obtain ⟨⟨k0, k1⟩, _⟩ := two_cells ((hb1.block p (by omega)).trans HG0.out)
  obtain ⟨⟨k2, k3⟩, _⟩ := two_cells ((hb1.block (p + 1) (by omega)).trans HG1.out)
  have hw1 : p ≤ w1.heap.size := by have := HB1.out.size; omega
  have HI := Lib.hid hI
  clear a0 a1 a2 a3 hb1 HLK hg0 hg1 HB0 hI HG0 HG1
  by_cases h1 : E = 0
  · subst h1
    have HBE : Hid (B = if k = 1 then 111 else 0) := by show _ = _; rw [HBE.out, if_neg (by simp)]
    by_cases h2 : k = 1
    · have e2 : (k == 1) = true := by simpa using h2
      obtain rfl : B = 111 := by rw [HBE.out, if_pos h2]
      obtain rfl : T = [] := by rw [HBV.out, if_neg (by decide)]
      clear h2
      go_wp2_with fail
      go_ret2
      exact ⟨none, 0, rfl, Or.inl rfl, HB1.out⟩
    · have e2 : (k == 1) = false := by simpa using h2
      obtain rfl : B = 0 := by rw [HBE.out, if_neg h2]
      obtain ⟨n, j, hn, hk, hC0, hjC, hC5, hLn, hCb, hjb, hNR⟩ := in_facts HE.out
      obtain ⟨i0, hi0⟩ : ∃ i0 : Nat, j = i0 + 1 := ⟨j - 1, by omega⟩
      have hML : (cl C i0).xs.length = n := by
        have := (hNR.lv (show i0 < bs.length by omega)).1
        rw [csl_at, hn] at this
        omega
      have HZe : Hid (Z = arL l (hld (cl C j).xs x)) := by show _ = _; rw [HIV.out, if_pos rfl, hk, show ((j : Int) + 1).toNat - 1 = j by omega, csl_at]
      have HTe : Hid (acr (cl C i0).xs l Z Z.length = T) := by
        show _ = _
        rw [HBV.out, if_pos rfl, hk, show ((j : Int) + 1).toNat - 1 = j by omega, show ((j : Int) + 1).toNat - 2 = i0 by omega, csl_at, csl_at, HZe.out, acr_bt]
        rfl
      have hl8 := (chk_zero hC0).2.2.1
      have hZ8 : Z.length ≤ 8192 := by rw [HZe.out]; have := cho_len (arP l (hld (cl C j).xs x)) l.length; unfold arL; omega
      have hZl : ∀ i, i < Z.length → Z.getD i 0 < l.length := fun i hi => by
        have h3 := getN_mem hi
        have h4 : Z.getD i 0 ∈ arL l (hld (cl C j).xs x) := by rw [← HZe.out]; exact h3
        exact (arL_mem.1 h4).1
      have HAC := Lib.hid (racross_any n a l cap ba bs bc ca C cc i0 va Z vc w1 hC0 (by omega) hC5 hML hZ8 hZl (HRA.out.on (hp ▸ HB1.out)) (HRR.out.on (hp ▸ HB1.out)) HI.out)
      rw [HTe.out, ← hn] at HAC
      have ek : k - 1 = (i0 : Int) + 1 := by omega
      have ev : IntKind.i64.wrap (k - 1) = (i0 : Int) + 1 := by rw [ek, IntKind.wrap_i64]; omega
      have ev2 : IntKind.i64.wrap ((i0 : Int) + 1) = (i0 : Int) + 1 := by rw [IntKind.wrap_i64]; omega
      clear hn hk hC0 hLn hCb hNR hi0 hML h2 hZl
      go_wp2_with fail
      refine HAC.out.mono ?_
      rintro e w2 ⟨v, c, rfl, hown, hb2⟩
      have HB2 : Hid (Below p w w2) := HB1.out.trans (hb2.mono hw1)
      have HI2 := Lib.hid (own_ints hown rfl)
      clear hown hb2 HAC k0 k1 k2 k3
      go_wp2_with fail
      go_ret2
      exact ⟨v, c, rfl, HI2.out, HB2.out⟩
  · have e1 : (E != 0) = true := by simpa using h1
    obtain rfl : B = E := by rw [HBE.out, if_pos h1]
    obtain rfl : T = [] := by rw [HBV.out, if_neg h1]
    go_wp2_with fail
    go_ret2
    exact ⟨none, 0, rfl, Or.inl rfl, HB1.out⟩
end Go.Proofs.YtpmjbeiclmllmaaGreat
namespace Go.Proofs.YtpmjbeiclmllmaaGreat
open Go.RowKit
/-- What is lent and copied, as it lies. -/
structure TlS (W w : World) (bg bn g c : Nat) (xa : Option Addr) (xc : Nat) (ya : Option Addr) (Y : List Cl) (yc : Nat) (N : Int) (l : List A) (bs : List Int) (C : List Cl) : Prop where
  be : Below W.heap.size W w
  bg : w.heap[bg]? = some (.cells #[.int .i64 N, .slice (some ⟨g, 0, none⟩) l.length c] 24)
  bn : w.heap[bn]? = some (.cells #[.slice xa bs.length xc, .slice ya C.length yc] 28)
  still : Still w g l
  c1 : l.length < c
  c2 : c ≤ 9223372036854775807
  ints : Ints w xa bs
  rws : Rws w ya Y
  eq : csl Y = csl C
  len : Y.length = C.length
theorem in_len {N : Int} {l : List A} {bs : List Int} {cs : List (List Int)} {k x : Int} : (inV N l bs cs k x).length ≤ 8192 := by
  unfold inV
  split
  · rename_i h
    have h1 := (chk_zero (inE_zero h).1.1).2.2.1
    have h2 := cho_len (arP l (hld (lvl cs (k.toNat - 1)) x)) l.length
    unfold arL
    omega
  · simp
theorem bt_len {N : Int} {l : List A} {bs : List Int} {cs : List (List Int)} {k x : Int} : (btV N l bs cs k x).length ≤ 8192 := by
  unfold btV
  split
  · rename_i h
    have h0 : inE N l bs cs k x = 0 := by
      unfold btE at h
      split at h
      · rename_i h1; exact absurd h h1
      · rename_i h1; simpa using h1
    have h1 := (chk_zero (inE_zero h0).1.1).2.2.1
    have h2 := cho_len (arP l (btP (lvl cs (k.toNat - 1)) (lvl cs (k.toNat - 2)) x)) l.length
    unfold arL
    omega
  · simp
theorem still_typed {w : World} {g b i : Nat} {l : List A} {u : Value} (h : Still w g l) (hne : g ≠ b) : Still (w.setCell ⟨b, i, none⟩ u) g l := fun j hj => by
  have e : ∀ k, (w.setCell ⟨b, i, none⟩ u).cell? ⟨g, k, none⟩ = w.cell? ⟨g, k, none⟩ := fun k => World.cell?_of_block (a := ⟨g, k, none⟩) (Below.heap_setCell w ⟨b, i, none⟩ u g hne)
  obtain ⟨h1, h2, h3⟩ := h j hj
  exact ⟨(e _).trans h1, (e _).trans h2, (e _).trans h3⟩
theorem tls_of {W0 w : World} {bg bn g c : Nat} {xa : Option Addr} {xc : Nat} {ya : Option Addr} {Y : List Cl} {yc : Nat} {N : Int} {l : List A} {bs : List Int} {C : List Cl} (hb : Below W0.heap.size W0 w) (hg : w.heap[bg]? = some (.cells #[.int .i64 0, .slice none 0 0] 24)) (hgB : W0.heap.size ≤ bg) (hn : w.heap[bn]? = some (.cells #[.slice none 0 0, .slice none 0 0] 28)) (hnB : W0.heap.size ≤ bn) (hne : bg ≠ bn) (hst : Still w g l) (hc1 : l.length < c) (hc2 : c ≤ 9223372036854775807) (hcp : ∃ B, CpO w B xa bs xc ya Y C yc) (hCb : ∀ j, j < C.length → (cl C j).xs.length ≤ 9223372036854775807) :
    TlS W0 ((((w.setCell ⟨bg, 0, none⟩ (.int .i64 N)).setCell ⟨bg, 1, none⟩ (.slice (some ⟨g, 0, none⟩) l.length c)).setCell ⟨bn, 0, none⟩ (.slice xa bs.length xc)).setCell ⟨bn, 1, none⟩ (.slice ya C.length yc)) bg bn g c xa xc ya Y yc N l bs C := by
  have h0 := hst 0 (by omega)
  have e1 : g ≠ bg := by
    rintro rfl
    have := h0.2.1
    rw [(two_cells hg).1.2] at this
    cases this
  have e2 : g ≠ bn := by
    rintro rfl
    have := h0.1
    rw [(two_cells hn).1.1] at this
    cases this
  have g1 := heap_setCell_same w bg 0 _ _ (.int .i64 N) hg
  have g2 := heap_setCell_same _ bg 1 _ _ (.slice (some ⟨g, 0, none⟩) l.length c) g1
  have n1 : ((w.setCell ⟨bg, 0, none⟩ (.int .i64 N)).setCell ⟨bg, 1, none⟩ (.slice (some ⟨g, 0, none⟩) l.length c)).heap[bn]? = some (.cells #[.slice none 0 0, .slice none 0 0] 28) := (Below.heap_setCell _ ⟨bg, 1, none⟩ _ bn (fun h => hne h.symm)).trans ((Below.heap_setCell _ ⟨bg, 0, none⟩ _ bn (fun h => hne h.symm)).trans hn)
  have n2 := heap_setCell_same _ bn 0 _ _ (.slice xa bs.length xc) n1
  have n3 := heap_setCell_same _ bn 1 _ _ (.slice ya C.length yc) n2
  have g3 := (Below.heap_setCell _ ⟨bn, 1, none⟩ (.slice ya C.length yc) bg hne).trans ((Below.heap_setCell _ ⟨bn, 0, none⟩ (.slice xa bs.length xc) bg hne).trans g2)
  obtain ⟨B, hc⟩ := hcp
  have c1 := hc.far (i := 0) hg (by decide) (by decide) (.int .i64 N)
  have c2 := c1.far (i := 1) g1 (by decide) (by decide) (.slice (some ⟨g, 0, none⟩) l.length c)
  have c3 := c2.far (i := 0) n1 (by decide) (by decide) (.slice xa bs.length xc)
  have c4 := c3.far (i := 1) n2 (by decide) (by decide) (.slice ya C.length yc)
  obtain ⟨r1, r2⟩ := c4.rws hCb
  exact ⟨(((hb.setCell (p := ⟨bg, 0, none⟩) hgB _).setCell (p := ⟨bg, 1, none⟩) hgB _).setCell (p := ⟨bn, 0, none⟩) hnB _).setCell (p := ⟨bn, 1, none⟩) hnB _, by rw [g3]; simp, by rw [n3]; simp, still_typed (still_typed (still_typed (still_typed hst e1) e1) e2) e2, hc1, hc2, ints_own c4.1, r1, r2, c4.2.2.1⟩
end Go.Proofs.YtpmjbeiclmllmaaGreat
