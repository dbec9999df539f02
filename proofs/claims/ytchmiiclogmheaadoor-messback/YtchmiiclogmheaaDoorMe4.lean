/-
  Is one of a message's lists too long; how many bytes it takes at least. Is a message too long, and may it be. May a message be; is one of its lists too long; how many bytes it takes at least.
-/
import Derived.Test.YtchmiiclogmheaaDoorMe1
namespace Go.Proofs.YtchmiiclogmheaaDoor.C2
open Go.RowKit
set_option maxRecDepth 100000 in
set_option maxHeartbeats 3200000 in
theorem index80_any (b o c : Nat) (l : List Int) (f : Int) (w : World) (hl : l.length ≤ 100) (h : ∀ j, j < l.length → w.cell? ⟨b, o + j, none⟩ = some (.int .i64 (l.getD j 0))) : Calls Tryd.prog 80 #[.slice (some ⟨b, o, none⟩) l.length c, .int .i64 f] w fun e w' => (∃ i : Int, e = .returned (.int .i64 i) ∧ decide (0 ≤ i) = l.contains f) ∧ w' = w := by
  have HA := Lib.hid h
  obtain ⟨L, HL⟩ := named l.length
  rw [HL.out] at HA hl ⊢
  clear h
  go_enter Tryd.func80, Tryd.ntmps80
  go_wp2_with fail
  go_loopw [8] (fun i wr => ∃ k : Nat, k ≤ L ∧ i = .int .i64 k ∧ Hid ((l.take k).contains f = false) ∧ wr = w) (fun i _ => L - (intOf i).toNat)
  case atStart => exact ⟨0, by omega, rfl, Lib.hid rfl, rfl⟩
  case round =>
    obtain ⟨k, hk, rfl, HK, rfl⟩ := hrel
    by_cases hlt : k < L
    · have q0 := HA.out k hlt
      have hkl : k < l.length := by rw [HL.out]; exact hlt
      have HG : Hid (l.getD k 0 = l[k]) := Lib.hid (by simp [List.getD, hkl])
      generalize hX : l.getD k 0 = X at *
      by_cases he : f = X
      · subst he
        go_wp2_with fail
        go_ret
        refine ⟨⟨_, rfl, ?_⟩, by first | rfl | trivial⟩
        rw [show l.contains f = true by rw [List.contains_iff_mem, HG.out]; exact List.getElem_mem _]
        simp
      · have hne : (f == X) = false := by simp [he]
        go_wp2_with fail
        refine ⟨⟨k + 1, by omega, by go_num, ?_, by first | rfl | trivial⟩, by simp [intOf]; omega⟩
        have e := HK.out
        rw [HG.out] at he
        refine Lib.hid ?_
        rw [List.take_succ_eq_append_getElem hkl]
        have e2 : f ∉ l.take k := fun h3 => by rw [← List.contains_iff_mem, e] at h3; cases h3
        rw [Bool.eq_false_iff]
        intro h3
        rcases List.mem_append.1 (List.contains_iff_mem.1 h3) with h4 | h4
        · exact e2 h4
        · exact he (List.mem_singleton.1 h4)
    · obtain rfl : k = L := by omega
      go_wp2_with fail
      go_ret
      refine ⟨⟨_, rfl, ?_⟩, by first | rfl | trivial⟩
      have e := HK.out
      rw [← HL.out, List.take_length] at e
      rw [e]
      rfl
set_option maxRecDepth 100000 in
set_option maxHeartbeats 1600000 in
theorem contains48_any (b o c : Nat) (l : List Int) (f : Int) (w : World) (hl : l.length ≤ 100) (h : ∀ j, j < l.length → w.cell? ⟨b, o + j, none⟩ = some (.int .i64 (l.getD j 0))) : Calls Tryd.prog 48 #[.slice (some ⟨b, o, none⟩) l.length c, .int .i64 f] w fun e w' => e = .returned (.bool (l.contains f)) ∧ w' = w := by
  have HC := Lib.hid (index80_any b o c l f w hl h)
  obtain ⟨L, HL⟩ := named l.length
  rw [HL.out] at HC ⊢
  clear h
  go_enter Tryd.func48, Tryd.ntmps48
  go_wp2_with fail
  refine HC.out.mono ?_
  rintro e w2 ⟨⟨i, rfl, hi⟩, rfl⟩
  have HI := Lib.hid hi
  clear hi
  go_wp2_with fail
  go_ret
  exact ⟨ret_bool HI.out, rfl⟩
/-- The number in a field. -/
def nF (m : MM) : Nat → Int
  | 0 => m.ep
  | 1 => m.lv
  | 2 => m.ce
  | 3 => m.qu
  | 4 => m.ve
  | 5 => m.ot
  | 6 => m.bk
  | _ => 0
/-- A field is zero. -/
def zB (m : MM) (f : Nat) : Bool := if f = 7 then (m.ws.length : Int) == 0 else if f = 8 then (m.ms.length : Int) == 0 else if f = 9 then (m.ds.length : Int) == 0 else nF m f == 0
/-- A field is within its bounds. -/
def wB (m : MM) (f : Nat) : Bool := if f = 7 ∨ f = 9 then true else if f = 8 then !(m.ms.any outB) else decide (0 ≤ nF m f) && decide (nF m f ≤ mo f)
set_option maxRecDepth 100000 in
set_option maxHeartbeats 6400000 in
theorem isZero_any (m : MM) (p : Ad) (f : Nat) (hf : f ≤ 9) (w : World) : Calls Tryd.prog 47 #[.agg (msC m p), .int .i64 f] w fun e w' => e = .returned (.bool (zB m f)) ∧ Below w.heap.size w w' := by
  have hb : Below w.heap.size w (w.alloc (.cells (msC m p) 26)) := (Below.refl _ _).alloc (Nat.le_refl _) _
  have HP := Lib.hid (fun f hf => place_any w.heap.size f hf (w.alloc (.cells (msC m p) 26)))
  have hz : (zB m f = if f = 7 then (m.ws.length : Int) == 0 else if f = 8 then (m.ms.length : Int) == 0 else if f = 9 then (m.ds.length : Int) == 0 else nF m f == 0) := rfl
  rw [hz]
  clear hz
  have HB := Lib.hid hb
  clear hb
  have h : f = 0 ∨ f = 1 ∨ f = 2 ∨ f = 3 ∨ f = 4 ∨ f = 5 ∨ f = 6 ∨ f = 7 ∨ f = 8 ∨ f = 9 := by omega
  unfold msC at *
  generalize m.ws.length = W at *
  generalize m.ms.length = M at *
  generalize m.ds.length = D at *
  clear hf
  rcases h with rfl | rfl | rfl | rfl | rfl | rfl | rfl | rfl | rfl | rfl
  case inl | inr.inl | inr.inr.inl | inr.inr.inr.inl | inr.inr.inr.inr.inl | inr.inr.inr.inr.inr.inl | inr.inr.inr.inr.inr.inr.inl =>
    go_enter Tryd.func47, Tryd.ntmps47
    go_wp2_with fail
    refine (HP.out _ (by decide)).mono ?_
    rintro e w2 ⟨rfl, rfl⟩
    go_wp2_with fail
    go_ret
    exact ⟨rfl, HB.out⟩
  all_goals
    clear HP
    go_enter Tryd.func47, Tryd.ntmps47
    go_wp2_with fail
    go_ret
    exact ⟨rfl, HB.out⟩
set_option maxRecDepth 100000 in
set_option maxHeartbeats 6400000 in
theorem within_num (m : MM) (p : Ad) (f : Nat) (hf : f ≤ 6) (w : World) : Calls Tryd.prog 49 #[.agg (msC m p), .int .i64 f] w fun e w' => e = .returned (.bool (decide (0 ≤ nF m f) && decide (nF m f ≤ mo f))) ∧ Below w.heap.size w w' := by
  have hb : Below w.heap.size w (w.alloc (.cells (msC m p) 26)) := (Below.refl _ _).alloc (Nat.le_refl _) _
  have HP := Lib.hid (fun f hf => place_any w.heap.size f hf (w.alloc (.cells (msC m p) 26)))
  have HM := Lib.hid (fun f => most_any f (w.alloc (.cells (msC m p) 26)))
  have HB := Lib.hid hb
  clear hb
  have h : f = 0 ∨ f = 1 ∨ f = 2 ∨ f = 3 ∨ f = 4 ∨ f = 5 ∨ f = 6 := by omega
  clear hf
  obtain ⟨X, HX⟩ := named (nF m f)
  obtain ⟨Y, HY⟩ := named (mo f)
  rw [HX.out, HY.out]
  unfold msC at *
  by_cases h0 : 0 ≤ X
  · rw [show decide (0 ≤ X) = true from decide_eq_true h0]
    rcases h with rfl | rfl | rfl | rfl | rfl | rfl | rfl
    all_goals
      have hx := HX.out
      simp only [nF] at hx
      rw [hx] at HP HM HB ⊢
      clear hx HX
      go_enter Tryd.func49, Tryd.ntmps49
      go_wp2_with fail
      refine (HP.out _ (by decide)).mono ?_
      rintro e w2 ⟨rfl, rfl⟩
      go_wp2_with fail
      refine (HM.out _).mono ?_
      rintro e w2 ⟨rfl, rfl⟩
      rw [HY.out]
      go_wp2_with fail
      go_ret
      exact ⟨rfl, HB.out⟩
  · rw [show decide (0 ≤ X) = false from decide_eq_false h0]
    rcases h with rfl | rfl | rfl | rfl | rfl | rfl | rfl
    all_goals
      have hx := HX.out
      simp only [nF] at hx
      rw [hx] at HP HM HB ⊢
      clear hx HX
      go_enter Tryd.func49, Tryd.ntmps49
      go_wp2_with fail
      refine (HP.out _ (by decide)).mono ?_
      rintro e w2 ⟨rfl, rfl⟩
      go_wp2_with fail
      go_ret
      exact ⟨rfl, HB.out⟩
set_option maxRecDepth 100000 in
set_option maxHeartbeats 6400000 in
theorem isWithin_any (m : MM) (p : Ad) (f : Nat) (hf : f ≤ 9) (w : World) (hM : Mts w p.ma m.ms) (hl : m.ms.length ≤ 140737488351232) : Calls Tryd.prog 49 #[.agg (msC m p), .int .i64 f] w fun e w' => e = .returned (.bool (wB m f)) ∧ Below w.heap.size w w' := by
  by_cases h6 : f ≤ 6
  · have e : wB m f = (decide (0 ≤ nF m f) && decide (nF m f ≤ mo f)) := by
      unfold wB
      rw [if_neg (by omega), if_neg (by omega)]
    rw [e]
    exact within_num m p f h6 w
  · have hb : Below w.heap.size w (w.alloc (.cells (msC m p) 26)) := (Below.refl _ _).alloc (Nat.le_refl _) _
    have HC := Lib.hid (contains81_any outB out1_any p.ma m.ms p.mc _ hl (hM.on hb))
    have HB := Lib.hid hb
    clear hb hM
    have h : f = 7 ∨ f = 8 ∨ f = 9 := by omega
    clear h6 hf
    unfold msC at *
    rcases h with rfl | rfl | rfl
    · clear HC
      go_enter Tryd.func49, Tryd.ntmps49
      go_wp2_with fail
      go_ret
      exact ⟨rfl, HB.out⟩
    · rw [show wB m 8 = !(m.ms.any outB) from rfl]
      generalize m.ms.any outB = A at *
      go_enter Tryd.func49, Tryd.ntmps49
      go_wp2_with fail
      refine HC.out.mono ?_
      rintro e w2 ⟨rfl, hb2⟩
      have HB2 := Lib.hid (HB.out.trans (hb2.mono HB.out.size))
      clear hb2 HC
      go_wp2_with fail
      go_ret
      exact ⟨rfl, HB2.out⟩
    · clear HC
      go_enter Tryd.func49, Tryd.ntmps49
      go_wp2_with fail
      go_ret
      exact ⟨rfl, HB.out⟩
end Go.Proofs.YtchmiiclogmheaaDoor.C2
namespace Go.Proofs.YtchmiiclogmheaaDoor.C2
open Go.RowKit
/-- A field is as it must be. -/
def tB (m : MM) (f : Nat) : Bool := if (fl m.kd.toNat).contains (f : Int) then wB m f else zB m f
def mayB (m : MM) : Bool := isKB m.kd && (List.range 10).all (tB m)
theorem cells11 {w : World} {g : Nat} {a0 a1 a2 a3 a4 a5 a6 a7 a8 a9 a10 : Value} {t : TypeId} (h : w.heap[g]? = some (.cells #[a0, a1, a2, a3, a4, a5, a6, a7, a8, a9, a10] t (0, 0))) : w.cell? ⟨g, 0, none⟩ = some a0 ∧ w.cell? ⟨g, 1, none⟩ = some a1 ∧ w.cell? ⟨g, 2, none⟩ = some a2 ∧ w.cell? ⟨g, 3, none⟩ = some a3 ∧ w.cell? ⟨g, 4, none⟩ = some a4 ∧ w.cell? ⟨g, 5, none⟩ = some a5 ∧ w.cell? ⟨g, 6, none⟩ = some a6 ∧ w.cell? ⟨g, 7, none⟩ = some a7 ∧ w.cell? ⟨g, 8, none⟩ = some a8 ∧ w.cell? ⟨g, 9, none⟩ = some a9 ∧ w.cell? ⟨g, 10, none⟩ = some a10 := by
  simp [World.cell?, h]
theorem all_step {m : MM} {k : Nat} (h : ∀ f, f < k → tB m f = true) (hk : tB m k = true) : ∀ f, f < k + 1 → tB m f = true := fun f hf => by
  by_cases e : f = k
  · rw [e]; exact hk
  · exact h f (by omega)
theorem mayB_no {m : MM} {k : Nat} (hk : k < 10) (h : tB m k = false) : mayB m = false := by
  unfold mayB
  rw [Bool.and_eq_false_iff]
  refine Or.inr ?_
  rw [List.all_eq_false]
  exact ⟨k, by simp; omega, by rw [h]; simp⟩
theorem mayB_yes {m : MM} (h0 : isKB m.kd = true) (h : ∀ f, f < 10 → tB m f = true) : mayB m = true := by
  unfold mayB
  rw [h0, Bool.true_and, List.all_eq_true]
  intro f hf
  exact h f (by simpa using hf)
set_option maxRecDepth 100000 in
set_option maxHeartbeats 12800000 in
theorem mayBe_any (m : MM) (p : Ad) (w : World) (hF : Flds w) (hM : Mts w p.ma m.ms) (hl : m.ms.length ≤ 140737488351232) : Calls Tryd.prog 28 #[.agg (msC m p)] w fun e w' => e = .returned (.bool (mayB m)) ∧ Below w.heap.size w w' := by
  have hb : Below w.heap.size w (w.alloc (.cells (msC m p) 26)) := (Below.refl _ _).alloc (Nat.le_refl _) _
  have hbx := heap_top w (.cells (msC m p) 26)
  have HK := Lib.hid (isKind_any m.kd (w.alloc (.cells (msC m p) 26)) (hF.on hb (Nat.le_refl _)))
  have HF := Lib.hid hF
  have HB := Lib.hid hb
  have HBX := Lib.hid hbx
  have HZ : Hid (∀ f, f ≤ 9 → ∀ W, Calls Tryd.prog 47 #[.agg (msC m p), .int .i64 (f : Nat)] W fun e w' => e = .returned (.bool (zB m f)) ∧ Below W.heap.size W w') := Lib.hid (fun f hf W => isZero_any m p f hf W)
  have HW : Hid (∀ f, f ≤ 9 → ∀ W, Below w.heap.size w W → Calls Tryd.prog 49 #[.agg (msC m p), .int .i64 (f : Nat)] W fun e w' => e = .returned (.bool (wB m f)) ∧ Below W.heap.size W w') := Lib.hid (fun f hf W hW => isWithin_any m p f hf W (hM.on hW) hl)
  clear hM hl hF hb
  unfold msC at *
  obtain ⟨q0, q1, q2, q3, q4, q5, q6, q7, q8, q9, q10⟩ := cells11 hbx
  clear hbx
  by_cases hk : isKB m.kd = true
  · rw [hk] at HK
    have hk4 : 1 ≤ m.kd ∧ m.kd ≤ 4 := of_decide_eq_true hk
    have HKB := Lib.hid hk
    clear hk
    obtain ⟨K, hK⟩ := Int.eq_ofNat_of_zero_le (a := m.kd) (by omega)
    have hK4 : 1 ≤ K ∧ K ≤ 4 := by omega
    have HT : Hid (∀ f : Nat, tB m f = if (fl K).contains (f : Int) then wB m f else zB m f) := Lib.hid (fun f => by
      unfold tB
      rw [show m.kd.toNat = K by omega])
    obtain ⟨fb, fo, fc, hc, hcc⟩ := HF.out.2 K hK4.1 hK4.2
    have HCL := Lib.hid hc
    have hlen : (fl K).length ≤ 100 := by
      have : K = 1 ∨ K = 2 ∨ K = 3 ∨ K = 4 := by omega
      rcases this with rfl | rfl | rfl | rfl <;> decide
    have HCO : Hid (∀ (f : Int) W, Below w.heap.size w W → Calls Tryd.prog 48 #[.slice (some ⟨fb, fo, none⟩) (fl K).length fc, .int .i64 f] W fun e w' => e = .returned (.bool ((fl K).contains f)) ∧ w' = W) := Lib.hid (fun f W hW => contains48_any fb fo fc (fl K) f W hlen (fun j hj => (hW.cell (p := ⟨fb, fo + j, none⟩) (by
      have := World.block_lt_of_cell? w _ (hcc j hj)
      exact this)).trans (hcc j hj)))
    have hsz := HF.out.size
    clear hc hcc hlen hk4
    rw [hK] at HK HB HBX HZ HW q0 q1 q2 q3 q4 q5 q6 q7 q8 q9 q10 ⊢
    have hmK : Hid (m.kd = K) := Lib.hid hK
    clear hK
    generalize (fl K).length = FL at *
    go_enter Tryd.func28, Tryd.ntmps28
    go_wp2_with fail
    refine HK.out.mono ?_
    rintro e w2 ⟨rfl, e2⟩
    generalize hW1 : w.alloc _ = W1 at *
    obtain rfl : W1 = w2 := e2.symm
    clear HK e2 hW1 q0 q1 q2 q3 q4 q5 q6 q7 q8 q9 q10
    go_wp2_with fail
    go_loopw [9] (fun i wr => ∃ k : Nat, k ≤ 10 ∧ i = .int .i64 k ∧ Hid (∀ f, f < k → tB m f = true) ∧ Hid (Below W1.heap.size W1 wr)) (fun i _ => 10 - (intOf i).toNat)
    case atStart => exact ⟨0, by omega, rfl, Lib.hid (fun f hf => by omega), Below.refl _ _⟩
    case round =>
      obtain ⟨k, hk, rfl, HAL, HBR⟩ := hrel
      have HBW : Hid (Below w.heap.size w wr) := Lib.hid (HB.out.trans (HBR.out.mono HB.out.size))
      have hbx := (HBR.out.block _ (lt_of_block HBX.out)).trans HBX.out
      obtain ⟨q0, q1, q2, q3, q4, q5, q6, q7, q8, q9, q10⟩ := cells11 hbx
      clear hbx
      by_cases hlt : k < 10
      · have hlt' : (k : Int) < 10 := by omega
        have c0 := (HBW.out.cell (p := ⟨0, K, none⟩) (by show 0 < w.heap.size; omega)).trans HCL.out
        have HC := Lib.hid (HCO.out k wr HBW.out)
        have HTk := Lib.hid (HT.out k)
        have HWk := Lib.hid (HW.out k (by omega) wr HBW.out)
        have HZk := Lib.hid (HZ.out k (by omega) wr)
        obtain ⟨C, hC⟩ := named ((fl K).contains (k : Int))
        rw [hC.out] at HC HTk
        clear HW HZ HCO HT hC
        cases C
        · rw [if_neg (by decide)] at HTk
          rw [← HTk.out] at HZk
          clear HWk HTk
          obtain ⟨B, hB⟩ := named (tB m k)
          rw [hB.out] at HZk
          go_wp2_with fail
          refine HC.out.mono ?_
          rintro e w3 ⟨rfl, e3⟩
          obtain rfl : wr = w3 := e3.symm
          go_wp2_with fail
          refine HZk.out.mono ?_
          rintro e w4 ⟨rfl, hb4⟩
          have HB4 := Lib.hid (HBR.out.trans (hb4.mono HBR.out.size))
          clear hb4 q0 q1 q2 q3 q4 q5 q6 q7 q8 q9 q10 c0 HZk HC
          cases B
          · go_wp2_with fail
            go_ret
            exact ⟨ret_bool (mayB_no hlt hB.out).symm, HB.out.trans (HB4.out.mono HB.out.size)⟩
          · go_wp2_with fail
            exact ⟨⟨k + 1, by omega, by go_num, Lib.hid (all_step HAL.out hB.out), HB4⟩, by simp [intOf]; omega⟩
        · rw [if_pos (by rfl)] at HTk
          rw [← HTk.out] at HWk
          clear HZk HTk
          obtain ⟨B, hB⟩ := named (tB m k)
          rw [hB.out] at HWk
          go_wp2_with fail
          refine HC.out.mono ?_
          rintro e w3 ⟨rfl, e3⟩
          obtain rfl : wr = w3 := e3.symm
          go_wp2_with fail
          refine HWk.out.mono ?_
          rintro e w4 ⟨rfl, hb4⟩
          have HB4 := Lib.hid (HBR.out.trans (hb4.mono HBR.out.size))
          clear hb4 q0 q1 q2 q3 q4 q5 q6 q7 q8 q9 q10 c0 HWk HC
          cases B
          · go_wp2_with fail
            go_ret
            exact ⟨ret_bool (mayB_no hlt hB.out).symm, HB.out.trans (HB4.out.mono HB.out.size)⟩
          · go_wp2_with fail
            exact ⟨⟨k + 1, by omega, by go_num, Lib.hid (all_step HAL.out hB.out), HB4⟩, by simp [intOf]; omega⟩
      · have hlt' : ¬ (k : Int) < 10 := by omega
        obtain rfl : k = 10 := by omega
        clear HW HZ HCO HT q0 q1 q2 q3 q4 q5 q6 q7 q8 q9 q10
        go_wp2_with fail
        go_ret
        exact ⟨ret_bool (mayB_yes HKB.out HAL.out).symm, HBW.out⟩
  · have hk' : isKB m.kd = false := by simpa using hk
    have HM : Hid (mayB m = false) := Lib.hid (by unfold mayB; rw [hk']; rfl)
    rw [hk'] at HK
    rw [HM.out]
    clear hk hk' HM HZ HW HF HBX
    generalize m.kd = X0 at *
    go_enter Tryd.func28, Tryd.ntmps28
    go_wp2_with fail
    refine HK.out.mono ?_
    rintro e w2 ⟨rfl, rfl⟩
    clear HK
    go_wp2_with fail
    go_ret
    exact ⟨rfl, HB.out⟩
end Go.Proofs.YtchmiiclogmheaaDoor.C2
namespace Go.Proofs.YtchmiiclogmheaaDoor.C2
open Go.RowKit
def longM (m : MM) : Bool := decide (16384 < max (max m.ws.length m.ms.length) m.ds.length) || m.ms.any longB
set_option maxRecDepth 100000 in
set_option maxHeartbeats 6400000 in
theorem hasLong_any (m : MM) (p : Ad) (w : World) (hM : Mts w p.ma m.ms) (hl : m.ms.length ≤ 140737488351232) : Calls Tryd.prog 27 #[.agg (msC m p)] w fun e w' => e = .returned (.bool (longM m)) ∧ Below w.heap.size w w' := by
  have hb : Below w.heap.size w (w.alloc (.cells (msC m p) 26)) := (Below.refl _ _).alloc (Nat.le_refl _) _
  have HC := Lib.hid (contains45_any longB long1_any p.ma m.ms p.mc _ hl (hM.on hb))
  have HB := Lib.hid hb
  have HE : Hid (longM m = (decide (16384 < max (max m.ws.length m.ms.length) m.ds.length) || m.ms.any longB)) := Lib.hid rfl
  rw [HE.out]
  clear hM hl HE hb
  unfold msC at *
  generalize m.ms.any longB = A at *
  generalize m.ws.length = W at *
  generalize m.ms.length = M at *
  generalize m.ds.length = D at *
  obtain ⟨x1, H1⟩ := named (max W M)
  obtain ⟨x2, H2⟩ := named (max x1 D)
  rw [H1.out, H2.out]
  have m1 : (if (W : Int) < (M : Int) then (M : Int) else (W : Int)) = x1 := by
    have := H1.out
    split <;> omega
  have m2 : (if (x1 : Int) < (D : Int) then (D : Int) else (x1 : Int)) = x2 := by
    have := H2.out
    split <;> omega
  have m3 : (if W < M then (M : Int) else (W : Int)) = x1 := by
    have := H1.out
    split <;> omega
  have m4 : (if x1 < D then (D : Int) else (x1 : Int)) = x2 := by
    have := H2.out
    split <;> omega
  by_cases h : 16384 < x2
  · rw [show decide (16384 < x2) = true from decide_eq_true h, Bool.true_or]
    have h' : (16384 : Int) < (x2 : Int) := by omega
    clear HC
    go_enter Tryd.func27, Tryd.ntmps27
    go_wp2_with fail
    go_ret
    exact ⟨rfl, HB.out⟩
  · rw [show decide (16384 < x2) = false from decide_eq_false h, Bool.false_or]
    have h' : ¬ (16384 : Int) < (x2 : Int) := by omega
    go_enter Tryd.func27, Tryd.ntmps27
    go_wp2_with fail
    refine HC.out.mono ?_
    rintro e w2 ⟨rfl, hb2⟩
    have HB2 := Lib.hid (HB.out.trans (hb2.mono HB.out.size))
    clear hb2 HC
    go_wp2_with fail
    go_ret
    exact ⟨rfl, HB2.out⟩
theorem longM_no {m : MM} (h : longM m = false) : m.ws.length ≤ 16384 ∧ m.ms.length ≤ 16384 ∧ m.ds.length ≤ 16384 ∧ ∀ j, j < m.ms.length → (mat m.ms j).ds.length ≤ 16384 := by
  unfold longM at h
  rw [Bool.or_eq_false_iff] at h
  have h1 := of_decide_eq_false h.1
  refine ⟨by omega, by omega, by omega, fun j hj => ?_⟩
  have h2 := (List.any_eq_false.1 h.2) (mat m.ms j) (by
    unfold mat
    simp [List.getD, hj])
  unfold longB at h2
  simpa using h2
/-- How many distances the first matrices have. -/
def sumD (l : List MX) : Nat → Nat
  | 0 => 0
  | k + 1 => sumD l k + (mat l k).ds.length
theorem sumD_le (l : List MX) (h : ∀ j, j < l.length → (mat l j).ds.length ≤ 16384) : ∀ k, k ≤ l.length → sumD l k ≤ k * 16384
  | 0, _ => by simp [sumD]
  | k + 1, hk => by
    have := sumD_le l h k (by omega)
    have := h k (by omega)
    show sumD l k + _ ≤ _
    omega
def leastN (m : MM) : Nat := 2 * (m.ws.length + m.ds.length + sumD m.ms m.ms.length)
set_option maxRecDepth 100000 in
set_option maxHeartbeats 6400000 in
theorem least_any (m : MM) (p : Ad) (w : World) (hM : Mts w p.ma m.ms) (hno : longM m = false) : Calls Tryd.prog 29 #[.agg (msC m p)] w fun e w' => e = .returned (.int .i64 (leastN m : Nat)) ∧ Below w.heap.size w w' := by
  have hb : Below w.heap.size w (w.alloc (.cells (msC m p) 26)) := (Below.refl _ _).alloc (Nat.le_refl _) _
  obtain ⟨l1, l2, l3, l4⟩ := longM_no hno
  obtain ⟨wa, wc, ma, mc, da, dc⟩ := p
  have HL4 := Lib.hid l4
  have HB := Lib.hid hb
  obtain ⟨b, o, hab⟩ := hM.get
  have HA := Lib.hid hab
  have HE : Hid (leastN m = 2 * (m.ws.length + m.ds.length + sumD m.ms m.ms.length)) := Lib.hid rfl
  rw [HE.out]
  clear hM hno l4 hab HE hb
  unfold msC at *
  generalize m.ws.length = W at *
  generalize m.ds.length = D at *
  generalize hlM : m.ms = l at *
  obtain ⟨M, HM⟩ := named l.length
  rw [HM.out] at HA l2 HL4 HB ⊢
  clear hlM
  go_enter Tryd.func29, Tryd.ntmps29
  go_wp2_with fail
  go_loopw [16, 3] (fun i s wr => ∃ k q : Nat, k ≤ M ∧ i = .int .i64 k ∧ s = .int .i64 q ∧ q ≤ 32768 + k * 16384 ∧ Hid (q = W + D + sumD l k) ∧ Hid (Below w.heap.size w wr)) (fun i _ _ => M - (intOf i).toNat)
  case atStart => exact ⟨0, W + D, by omega, rfl, by go_num, by omega, Lib.hid rfl, HB⟩
  case round =>
    obtain ⟨k, q, hk, rfl, rfl, hq, HQ, HBR⟩ := hrel
    by_cases hlt : k < M
    · have hlt' : (k : Int) < (M : Int) := by omega
      obtain ⟨rfl, hbl, hat⟩ := HA.out (by omega)
      obtain ⟨x, cx, _, p0, p1, p2, p3⟩ := hat k hlt
      have q0 := (HBR.out.cell (p := ⟨b, o + k * 4, none⟩) hbl).trans p0
      have q1 := (HBR.out.cell (p := ⟨b, o + k * 4 + 1, none⟩) hbl).trans p1
      have q2 := (HBR.out.cell (p := ⟨b, o + k * 4 + 2, none⟩) hbl).trans p2
      have q3 := (HBR.out.cell (p := ⟨b, o + k * 4 + 3, none⟩) hbl).trans p3
      have HQ1 : Hid (q + (mat l k).ds.length = W + D + sumD l (k + 1)) := Lib.hid (by
        have := HQ.out
        show _ = W + D + (sumD l k + _)
        omega)
      have hd : (mat l k).ds.length ≤ 16384 := HL4.out k hlt
      clear p0 p1 p2 p3 hat HA HL4 HQ
      generalize (mat l k).ds.length = dl at *
      go_wp2_with fail
      refine ⟨⟨k + 1, q + dl, by omega, by go_num, by go_num, by omega, HQ1, ?_⟩, by simp [intOf]; omega⟩
      exact Lib.hid (HBR.out.alloc HBR.out.size _)
    · have hlt' : ¬ (k : Int) < (M : Int) := by omega
      obtain rfl : k = M := by omega
      have hm : Hid (2 * (q : Int) = ((2 * (W + D + sumD l k) : Nat) : Int)) := Lib.hid (by have := HQ.out; omega)
      have hw : IntKind.i64.wrap (2 * (q : Int)) = 2 * (q : Int) := by rw [IntKind.wrap_i64]; omega
      clear HA HL4
      go_wp2_with fail
      go_ret
      exact ⟨by rw [hm.out]; rfl, HBR.out⟩
end Go.Proofs.YtchmiiclogmheaaDoor.C2
