/-
  The reference's weighed. near.Length of no arcs; Weights; SameWeights. The reference's Weights. Whole. Distances within a cell, by the arcs inside alone and by all arcs. The reference's Copy of a graph, epochs, weighed.
-/
import Derived.Test.YtpmjbeiclmllmaaGreatXCqc
import Derived.Test.YtpmjbeiclmllmaaGreatXCec
import Derived.Test.YtpmjbeiclmllmaaGreatXKp
import Derived.Deep.RegionHeld3
import Derived.BigRegion
namespace Go.Proofs.YtpmjbeiclmllmaaGreat
open Go.RowKit
/-- The weights of arcs. -/
def wtL (l : List A) (ids : List Int) : List Int := ids.map (fun i => (l.getD i.toNat A.zero).w)
theorem wtL_len (l : List A) (ids : List Int) : (wtL l ids).length = ids.length := by simp [wtL]
theorem wtL_at {l : List A} {ids : List Int} {k : Nat} (h : k < ids.length) : (wtL l ids).getD k 0 = (l.getD (ids.getD k 0).toNat A.zero).w := by simp [wtL, List.getD, h]
/-- What Weights answers. -/
def wqE (N : Int) (l : List A) (ids : List Int) : Int := if chkE N l ≠ 0 then chkE N l else if 16384 < ids.length then 2 else if ids.all (fun i => decide (0 ≤ i ∧ i < (l.length : Int))) then 0 else 5
def wtV (l : List A) (ids : List Int) (k i : Nat) : Value := if i < k then .int .u32 ((wtL l ids).getD i 0) else .int .u32 0
theorem wtV_step (l : List A) (ids : List Int) (k i : Nat) (x : Int) (hx : (wtL l ids).getD k 0 = x) : updV (wtV l ids k) k (.int .u32 x) i = wtV l ids (k + 1) i := by
  unfold updV wtV
  by_cases h : i = k
  · subst h; rw [if_pos rfl, if_pos (by omega), hx]
  · rw [if_neg h]
    by_cases h2 : i < k
    · rw [if_pos h2, if_pos (by omega)]
    · rw [if_neg h2, if_neg (by omega)]
theorem info54 : (Tryz.prog.info? 66).map (fun i => (i.zero, i.size, i.bytes)) = some (some (.int .u32 0), 1, 4) := by kernel_rfl
theorem made_w (l : List A) (ids : List Int) (n : Nat) : madeCells (Value.int .u32 0).cells (n * 1) = ((List.range n).map (wtV l ids 0)).toArray := by
  apply Array.ext'
  show (madeCells #[Value.int .u32 0] (n * 1)).toList = _
  rw [toList_madeCells_one, Nat.mul_one]
  apply List.ext_getElem
  · simp
  · intro i h1 h2
    simp [wtV]
theorem wt_wts {w : World} {g : Nat} {l : List A} {ids : List Int} (h : TbV w g ids.length 66 (wtV l ids ids.length)) : Wts w (some ⟨g, 0, none⟩) (wtL l ids) := by
  refine Or.inr ⟨g, 0, rfl, h.lt, fun j hj => ?_⟩
  rw [wtL_len] at hj
  rw [Nat.zero_add, h.cell hj]
  unfold wtV
  rw [if_pos hj]
theorem near00 (N : Int) (l : List A) : N5.nearE N (l.map toN) [0, 0] = chkE N l := by
  unfold N5.nearE
  rw [chkE_N]
  by_cases h : chkE N l = 0
  · have h1 := (chk_zero h).1
    rw [if_pos h, h, if_pos]
    simp [N5.okV]
    omega
  · rw [if_neg h]
set_option maxRecDepth 100000 in
set_option maxHeartbeats 3200000 in
theorem length0_any (N : Int) (a : Option Addr) (l : List A) (cap : Nat) (w : World) (hl : l.length ≤ 9223372036854775807) (hr : Arcs w a l) :
    Calls Tryz.prog 57 #[.agg #[.int .i64 N, .slice a l.length cap], .int .i64 0, .int .i64 0, .slice none 0 0] w fun e w' => e = .returned (.tuple #[.int .u64 0, .int .i64 (chkE N l)]) ∧ Below w.heap.size w w' := by
  obtain ⟨hg0, hg1, hb0, hsz⟩ := top2 w (.cells #[.int .i64 N, .slice a l.length cap] 24) (.cells #[.int .i64 0, .int .i64 0] 3)
  obtain ⟨⟨a0, a1⟩, _⟩ := two_cells ((top2 w (.cells #[.int .i64 N, .slice a l.length cap] 24) (.cells #[.int .i64 0, .int .i64 0] 3)).1)
  have hx : N5.Ints ((w.alloc (.cells #[.int .i64 N, .slice a l.length cap] 24)).alloc (.cells #[.int .i64 0, .int .i64 0] 3)) (some ⟨w.heap.size + 1, 0, none⟩) [0, 0] := by
    refine Or.inr ⟨w.heap.size + 1, 0, rfl, by rw [hsz]; omega, fun j hj => ?_⟩
    obtain ⟨⟨b0, b1⟩, _⟩ := two_cells hg1
    match j, hj with
    | 0, _ => exact b0
    | 1, _ => exact b1
  have HCK := Lib.hid (N5.ncheck_any N a (l.map toN) cap (some ⟨w.heap.size + 1, 0, none⟩) [0, 0] 2 _ (by rw [List.length_map]; exact hl) (by decide) (arcs_N (hr.on hb0)) hx)
  rw [near00, List.length_map] at HCK
  have HB0 := Lib.hid hb0
  obtain ⟨E, HE⟩ := named (chkE N l)
  rw [HE.out] at HCK
  rw [HE.out]
  have c0 := (two_cells (heap_top w (.cells #[.int .i64 N, .slice a l.length cap] 24))).1.1
  have c1 := (two_cells (heap_top w (.cells #[.int .i64 N, .slice a l.length cap] 24))).1.2
  clear hr hx hg0 hg1 hb0
  generalize hp : w.heap.size = p at *
  have HCK2 : Hid (Calls Tryz.prog 100 #[.agg #[.int .i64 N, .slice a l.length cap], .slice (some ⟨p + 1, 0, none⟩) 2 2] ((w.alloc (.cells #[.int .i64 N, .slice a l.length cap] 24)).alloc (.cells #[.int .i64 0, .int .i64 0] 3)) fun e w' => e = .returned (.int .i64 E) ∧ Below p w w') := HCK.out.mono (fun e w' h => ⟨h.1, HB0.out.trans (h.2.mono (by omega))⟩)
  clear HCK HB0
  go_enter Tryz.func57, Tryz.ntmps57
  go_wp2_with fail
  refine HCK2.out.mono ?_
  rintro e w2 ⟨rfl, hb2⟩
  have HB2 := Lib.hid hb2
  clear hb2 HCK2 a0 a1 c0 c1
  by_cases h : E = 0
  · subst h
    go_wp2_with fail
    go_loop [31] (fun i => i = .int .i64 0) (fun _ => 0)
    case atStart => rfl
    case round =>
      subst hrel
      go_wp2_with fail
      go_loop [13, 14, 48] (fun x y i => x = .int .i64 0 ∧ y = .int .u64 0 ∧ i = .int .i64 0) (fun _ _ _ => 0)
      case atStart => exact ⟨rfl, rfl, rfl⟩
      case round =>
        obtain ⟨rfl, rfl, rfl⟩ := hrel
        go_wp2_with fail
        go_ret2
        exact ⟨rfl, HB2.out⟩
  · have e1 : (E != 0) = true := by simpa using h
    go_wp2_with fail
    go_ret2
    exact ⟨rfl, HB2.out⟩
set_option maxRecDepth 100000 in
set_option maxHeartbeats 3200000 in
theorem weights_any (N : Int) (a : Option Addr) (l : List A) (cap : Nat) (d : Option Addr) (ids : List Int) (dc : Nat) (w : World) (hl : l.length ≤ 9223372036854775807) (hdl : ids.length ≤ 9223372036854775807) (hr : Arcs w a l) (hj : Ints w d ids) :
    Calls Tryz.prog 28 #[.agg #[.int .i64 N, .slice a l.length cap], .slice d ids.length dc] w fun e w' => (wqE N l ids = 0 → ∃ g, e = .returned (.tuple #[.slice (some ⟨g, 0, none⟩) ids.length ids.length, .int .i64 0]) ∧ w.heap.size ≤ g ∧ Wts w' (some ⟨g, 0, none⟩) (wtL l ids)) ∧ (wqE N l ids ≠ 0 → e = .returned (.tuple #[.slice none 0 0, .int .i64 (wqE N l ids)])) ∧ Below w.heap.size w w' := by
  have hg := heap_top w (.cells #[.int .i64 N, .slice a l.length cap] 24)
  have hb0 : Below w.heap.size w (w.alloc (.cells #[.int .i64 N, .slice a l.length cap] 24)) := (Below.refl _ _).alloc (Nat.le_refl _) _
  have hsz : (w.alloc (.cells #[.int .i64 N, .slice a l.length cap] 24)).heap.size = w.heap.size + 1 := by simp
  obtain ⟨⟨a0, a1⟩, _⟩ := two_cells hg
  have HLN := Lib.hid (length0_any N a l cap _ hl (hr.on hb0))
  have HB0 := Lib.hid hb0
  have HG0 := Lib.hid hg
  have HRA := Lib.hid hr
  have HJ := Lib.hid hj
  have HST : Hid (wqE N l ids = if chkE N l ≠ 0 then chkE N l else if 16384 < ids.length then 2 else if ids.all (fun i => decide (0 ≤ i ∧ i < (l.length : Int))) then 0 else 5) := rfl
  obtain ⟨E, HE⟩ := named (chkE N l)
  rw [HE.out] at HLN HST
  obtain ⟨S, HSS⟩ := named (wqE N l ids)
  rw [HSS.out] at HST
  rw [HSS.out]
  clear hr hj hb0 hg HSS
  generalize hp : w.heap.size = p at *
  go_enter Tryz.func28, Tryz.ntmps28
  go_wp2_with fail
  generalize hW : w.alloc (.cells #[.int .i64 N, .slice a l.length cap] 24) = W at *
  clear hW
  refine HLN.out.mono ?_
  rintro e w1 ⟨rfl, hb1⟩
  have HB1 : Hid (Below p w w1) := HB0.out.trans (hb1.mono (by omega))
  have HG1 : Hid (w1.heap[p]? = some (.cells #[.int .i64 N, .slice a l.length cap] 24)) := (hb1.block p (by omega)).trans HG0.out
  have hw1 : p + 1 ≤ w1.heap.size := by have := hb1.size; omega
  clear a0 a1 hb1 HLN HB0 HG0
  have HBW := HB1
  by_cases hE : E = 0
  · subst hE
    have HST : Hid (S = if 16384 < ids.length then 2 else if ids.all (fun i => decide (0 ≤ i ∧ i < (l.length : Int))) then 0 else 5) := by
      show _ = _
      rw [HST.out, if_neg (by simp)]
    by_cases h16 : 16384 < ids.length
    · have h16' : (16384 : Int) < ids.length := by omega
      obtain rfl : S = 2 := by rw [HST.out, if_pos h16]
      go_wp2_with fail
      go_ret2
      first | exact ⟨rfl, HBW.out⟩ | exact ⟨(fun h => absurd h (by decide)), (fun _ => rfl), HBW.out⟩
    · have h16' : ¬ (16384 : Int) < ids.length := by omega
      have HST : Hid (S = if ids.all (fun i => decide (0 ≤ i ∧ i < (l.length : Int))) then 0 else 5) := by
        show _ = _
        rw [HST.out, if_neg h16]
      have hl8 : l.length ≤ 8192 := (chk_zero HE.out).2.2.1
      obtain ⟨iz, oz, hiz⟩ := HJ.out.get
      have HIZ := Lib.hid hiz
      obtain ⟨ix, ox, hix⟩ := HRA.out.get
      have HIX := Lib.hid hix
      clear hiz hix
      obtain ⟨i54, hi54, hz54, hs54, hby54⟩ := info_parts info54
      obtain ⟨m, HM⟩ := named ids.length
      rw [HM.out] at h16 h16' HIZ
      rw [HM.out]
      have hmk : ∀ w, (Instr.makeSlice 29 (.int .i64 m) (.int .i64 m)).run Tryz.prog w = .ok (.slice (some ⟨w.heap.size, 0, none⟩) m m) (w.alloc (.cells ((List.range m).map (wtV l ids 0)).toArray 66)) := fun w => by
        have := run_make (P := Tryz.prog) w 29 66 i54 (.int .u32 0) Tryz.underlying29 hi54 hz54 .i64 .i64 m m (by omega) (by omega) (by rw [hby54]; omega) (by omega)
        rw [hs54] at this
        rw [this, Int.toNat_natCast, made_w l ids]
      generalize hq : w1.heap.size = q at *
      have HT0 : Hid (TbV (w1.alloc (.cells ((List.range m).map (wtV l ids 0)).toArray 66)) q m 66 (wtV l ids 0)) := by
        have h := heap_top w1 (.cells ((List.range m).map (wtV l ids 0)).toArray 66)
        rw [hq] at h
        exact h
      have HBQ : Hid (Below q w1 (w1.alloc (.cells ((List.range m).map (wtV l ids 0)).toArray 66))) := (Below.refl _ _).alloc (by omega) _
      have HSTV := Lib.hid (wtV_step l ids)
      have HFN : Hid (∀ wr, TbV wr q m 66 (wtV l ids m) → Wts wr (some ⟨q, 0, none⟩) (wtL l ids)) := fun wr h => wt_wts (by rw [HM.out]; exact h)
      go_wp2_with fail
      generalize w1.alloc (.cells ((List.range m).map (wtV l ids 0)).toArray 66) = w2 at *
      clear hmk
      go_loopw [27] (fun i wr => ∃ (k : Nat), k ≤ m ∧ i = .int .i64 k ∧ Hid ((ids.take k).all (fun i => decide (0 ≤ i ∧ i < (l.length : Int))) = true) ∧ Hid (TbV wr q m 66 (wtV l ids k)) ∧ Hid (Below q w1 wr)) (fun i _ => m - (intOf i).toNat)
      case atStart => exact ⟨0, Nat.zero_le _, rfl, by show _ = _; simp, HT0, HBQ⟩
      case round =>
        clear HT0 HBQ
        obtain ⟨k, hk, rfl, HK, HTR, HBR⟩ := hrel
        have HBW : Hid (Below p w wr) := HB1.out.trans (HBR.out.mono (by omega))
        obtain ⟨⟨k0, k1⟩, _⟩ := two_cells ((HBR.out.block p (by omega)).trans HG1.out)
        by_cases hlk : k < m
        · have hlk' : (k : Int) < m := by omega
          have hk0 : (0 : Int) ≤ k := by omega
          have hlk2 : k < ids.length := by rw [HM.out]; exact hlk
          obtain ⟨rfl, hzl, hzat⟩ := HIZ.out (by omega)
          have s0 := (HBW.out.cell (p := ⟨iz, oz + k, none⟩) (hp ▸ hzl)).trans (hzat k hlk)
          have HT := Lib.hid (all_take_I (p := (fun i => decide (0 ≤ i ∧ i < (l.length : Int)))) hlk2 HK.out)
          have HF := Lib.hid (all_not_I (p := (fun i => decide (0 ≤ i ∧ i < (l.length : Int)))) hlk2)
          have HWA := Lib.hid (wtL_at (l := l) hlk2)
          generalize ids.getD k 0 = x at *
          clear hzat hlk2
          by_cases h1 : x < 0
          · obtain rfl : S = 5 := by rw [HST.out, if_neg (by rw [HF.out (decide_eq_false (by omega))]; simp)]
            go_wp2_with fail
            go_ret2
            first | exact ⟨rfl, HBW.out⟩ | exact ⟨(fun h => absurd h (by decide)), (fun _ => rfl), HBW.out⟩
          · by_cases h2 : (l.length : Int) ≤ x
            · obtain rfl : S = 5 := by rw [HST.out, if_neg (by rw [HF.out (decide_eq_false (by omega))]; simp)]
              go_wp2_with fail
              go_ret2
              first | exact ⟨rfl, HBW.out⟩ | exact ⟨(fun h => absurd h (by decide)), (fun _ => rfl), HBW.out⟩
            · have HK2 : Hid ((ids.take (k + 1)).all (fun i => decide (0 ≤ i ∧ i < (l.length : Int))) = true) := HT.out (decide_eq_true (by omega))
              obtain ⟨i, rfl⟩ : ∃ i : Nat, x = i := ⟨x.toNat, by omega⟩
              rw [Int.toNat_natCast] at HWA
              obtain ⟨rfl, hbl, hat⟩ := HIX.out (by omega)
              have x2 := (hat i (by omega)).2.2
              have y2 := (HBW.out.cell (p := ⟨ix, ox + i * 3 + 2, none⟩) (hp ▸ hbl)).trans x2
              obtain ⟨xw, HXW⟩ := named (l.getD i A.zero).w
              rw [HXW.out] at y2 HWA
              have q0 := HTR.out.free k
              have r0 := HTR.out.cell (v := k) (by omega)
              have hi0 : (0 : Int) ≤ i := by omega
              have hi1 : (i : Int) < l.length := by omega
              have HTN : Hid (TbV (wr.setCell ⟨q, k, none⟩ (.int .u32 xw)) q m 66 (wtV l ids (k + 1))) := (HTR.out.set k (.int .u32 xw)).congr (fun c _ => HSTV.out k c xw HWA.out)
              have HBN : Hid (Below q w1 (wr.setCell ⟨q, k, none⟩ (.int .u32 xw))) := HBR.out.setCell (p := ⟨q, k, none⟩) (by simp) _
              clear x2 hat h1 h2
              go_wp2_with fail
              exact ⟨⟨k + 1, by omega, by simp, HK2, HTN, HBN⟩, by simp [intOf]; omega⟩
        · have hlk' : ¬ (k : Int) < m := by omega
          obtain rfl : k = m := by omega
          obtain rfl : S = 0 := by
            have HAL := HK.out
            rw [← HM.out, List.take_length] at HAL
            rw [HST.out, if_pos HAL]
          have HWR := Lib.hid (HFN.out wr HTR.out)
          go_wp2_with fail
          go_ret2
          exact ⟨⟨q, by rw [HM.out]; rfl, by omega, HWR.out⟩, HBW.out⟩
  · have e1 : (E != 0) = true := by simpa using hE
    obtain rfl : S = E := by rw [HST.out, if_pos hE]
    go_wp2_with fail
    go_ret2
    exact ⟨fun h => absurd h hE, fun _ => rfl, HBW.out⟩
set_option maxRecDepth 100000 in
set_option maxHeartbeats 3200000 in
theorem sameW_any (a a' : Option Addr) (cap cap' : Nat) (xs : List Int) (w : World) (hlen : xs.length ≤ 9223372036854775807) (hr : Wts w a xs) (hr' : Wts w a' xs) :
    Calls Tryz.prog 18 #[.slice a xs.length cap, .slice a' xs.length cap'] w fun e w' => e = .returned (.bool true) ∧ Below w.heap.size w w' := by
  obtain ⟨b, o, hab⟩ := hr.get
  obtain ⟨b', o', hab'⟩ := hr'.get
  go_enter Tryz.func18, Tryz.ntmps18
  go_wp2_with fail
  go_loopw [5] (fun i wr => ∃ k n : Nat, k ≤ xs.length ∧ i = .int .i64 k ∧ wr = w.drewN n) (fun i _ => xs.length - (intOf i).toNat)
  case atStart => exact ⟨0, 0, Nat.zero_le _, rfl, rfl⟩
  case round =>
    obtain ⟨k, n, hk, rfl, rfl⟩ := hrel
    by_cases hlt : k < xs.length
    · obtain ⟨rfl, _, hc⟩ := hab (by omega)
      obtain ⟨rfl, _, hc'⟩ := hab' (by omega)
      have c1 := hc k hlt
      have c2 := hc' k hlt
      clear hc hc'
      generalize xs.getD k 0 = x at *
      go_wp2_with fail
      go_quiet (fail)
      go_wp2_with fail
      exact ⟨⟨k + 1, _, by omega, by go_num, rfl⟩, by simp [intOf]; omega⟩
    · go_wp2_with fail
      go_ret
      exact ⟨rfl, below_drewN _ _ _⟩
end Go.Proofs.YtpmjbeiclmllmaaGreat
namespace Go.Proofs.YtpmjbeiclmllmaaGreat
open Go.RowKit
/-- Weights as cells. -/
def cellsW (l : List Int) : List Value := l.map (Value.int .u32)
theorem cellsW_snoc (l : List Int) (x : Int) : cellsW l ++ [.int .u32 x] = cellsW (l ++ [x]) := by unfold cellsW; simp
theorem cellsW_getD (xs : List Int) (k : Nat) (h : k < xs.length) : (cellsW xs)[k]? = some (.int .u32 (xs.getD k 0)) := by
  unfold cellsW
  simp [List.getD, List.getElem?_eq_getElem h]
theorem wts_own {w : World} {B : Nat} {a : Option Addr} {c : Nat} {xs : List Int} (h : w.ownsRow B 66 1 (.slice a xs.length c) xs.length (cellsW xs)) : Wts w a xs := by
  rcases h.2 with ⟨e1, e2⟩ | ⟨g, c', cur, e1, _, h3, _⟩
  · exact Or.inl (List.eq_nil_of_length_eq_zero e2)
  · injection e1 with e1 e2 e3
    subst e1
    refine Or.inr ⟨g, 0, rfl, lt_of_block h3, fun j hj => ?_⟩
    rw [Nat.zero_add, World.ownsRow.cellAt h j (by omega), cellsW_getD _ j hj]
theorem wtL_snoc {l : List A} {ids : List Int} {k : Nat} (h : k < ids.length) : wtL l (ids.take (k + 1)) = wtL l (ids.take k) ++ [(l.getD (ids.getD k 0).toNat A.zero).w] := by
  unfold wtL
  rw [take_snocI h, List.map_append]
  rfl
end Go.Proofs.YtpmjbeiclmllmaaGreat
namespace Go.Proofs.YtpmjbeiclmllmaaGreat
open Go.RowKit
/-- Some arcs of a graph. -/
def wiL (l : List A) (ids : List Nat) : List A := wgL l ids (wtL l (ints ids))
/-- What Whole answers. -/
def whE (N : Int) (l : List A) (bs : List Int) (cs : List (List Int)) (lv ce ep : Int) : Int := if inE N l bs cs lv ce ≠ 0 then inE N l bs cs lv ce else if epB ep = false then 1 else 0
theorem wq_ints {n : Nat} {l : List A} {ids : List Nat} (h : chkE n l = 0) (hid : ∀ i, i < ids.length → ids.getD i 0 < l.length) (h8 : ids.length ≤ 8192) : wqE n l (ints ids) = 0 := by
  unfold wqE
  rw [if_neg (by rw [h]; simp), if_neg (by rw [ints_len]; omega), if_pos]
  rw [List.all_eq_true]
  intro x hx
  obtain ⟨y, hy, rfl⟩ := List.mem_map.1 hx
  obtain ⟨i, hi, rfl⟩ := List.getElem_of_mem hy
  have := hid i hi
  simp [List.getD, hi] at this
  simp
  omega
theorem wt_range {l : List A} {ids : List Nat} (hwt : ∀ x ∈ l, 0 ≤ x.w ∧ x.w < 4294967296) (hid : ∀ i, i < ids.length → ids.getD i 0 < l.length) : ∀ i, i < (wtL l (ints ids)).length → 0 ≤ (wtL l (ints ids)).getD i 0 ∧ (wtL l (ints ids)).getD i 0 < 4294967296 := by
  intro i hi
  rw [wtL_len, ints_len] at hi
  rw [wtL_at (by rw [ints_len]; exact hi), ints_getD hi, Int.toNat_natCast]
  have h1 := hid i hi
  generalize ids.getD i 0 = j at *
  refine hwt _ ?_
  rw [show l.getD j A.zero = l[j] by simp [List.getD, List.getElem?_eq_getElem h1]]
  exact List.getElem_mem h1
set_option maxRecDepth 100000 in
set_option maxHeartbeats 3200000 in
theorem whole_any (N : Int) (a : Option Addr) (l : List A) (cap : Nat) (ba : Option Addr) (bs : List Int) (bc : Nat) (ca : Option Addr) (C : List Cl) (cc : Nat) (lv ce ep : Int) (w : World) (hl : l.length ≤ 9223372036854775807) (hbl : bs.length ≤ 9223372036854775807) (hr : Arcs w a l) (hi : Ints w ba bs) (hR : Rws w ca C) (hwt : ∀ x ∈ l, 0 ≤ x.w ∧ x.w < 4294967296) :
    Calls Tryz.prog 12 #[.agg #[.int .i64 N, .slice a l.length cap], .agg #[.slice ba bs.length bc, .slice ca C.length cc], .int .i64 lv, .int .i64 ce, .int .i64 ep] w fun e w' => ((whE N l bs (csl C) lv ce ep) = 0 → (∃ v c, e = .returned (.tuple #[.agg #[.int .i64 lv, .int .i64 ce, .int .i64 ep, .slice v (mxL (wiL l (inV N l bs (csl C) lv ce)) (bdV N l bs (csl C) lv ce)).length c], .int .i64 0]) ∧ w'.ownsRow w.heap.size 47 1 (.slice v (mxL (wiL l (inV N l bs (csl C) lv ce)) (bdV N l bs (csl C) lv ce)).length c) (mxL (wiL l (inV N l bs (csl C) lv ce)) (bdV N l bs (csl C) lv ce)).length (cellsU (mxL (wiL l (inV N l bs (csl C) lv ce)) (bdV N l bs (csl C) lv ce))) ∧ ∀ i, i < (bdV N l bs (csl C) lv ce).length → N5.IsD ((wiL l (inV N l bs (csl C) lv ce)).map toN) (fun _ => true) ((bdV N l bs (csl C) lv ce).getD i 0) (dF (wiL l (inV N l bs (csl C) lv ce)) ((bdV N l bs (csl C) lv ce).getD i 0)))) ∧ ((whE N l bs (csl C) lv ce ep) ≠ 0 → e = .returned (.tuple #[.agg #[.int .i64 0, .int .i64 0, .int .i64 0, .slice none 0 0], .int .i64 (whE N l bs (csl C) lv ce ep)])) ∧ Below w.heap.size w w' := by
  obtain ⟨hg0, hg1, hg2, hb0, hsz⟩ := top3 w (.cells #[.int .i64 N, .slice a l.length cap] 24) (.cells #[.slice ba bs.length bc, .slice ca C.length cc] 28) (.cells #[.int .i64 0, .int .i64 0, .int .i64 0, .slice none 0 0] 39)
  have hg3 := heap_top (((w.alloc (.cells #[.int .i64 N, .slice a l.length cap] 24)).alloc (.cells #[.slice ba bs.length bc, .slice ca C.length cc] 28)).alloc (.cells #[.int .i64 0, .int .i64 0, .int .i64 0, .slice none 0 0] 39)) (.cells #[.int .i64 N, .slice a l.length cap, .slice ba bs.length bc, .slice ca C.length cc, .int .i64 lv, .int .i64 ce] 71)
  have hb1 : Below ((((w.alloc (.cells #[.int .i64 N, .slice a l.length cap] 24)).alloc (.cells #[.slice ba bs.length bc, .slice ca C.length cc] 28)).alloc (.cells #[.int .i64 0, .int .i64 0, .int .i64 0, .slice none 0 0] 39))).heap.size (((w.alloc (.cells #[.int .i64 N, .slice a l.length cap] 24)).alloc (.cells #[.slice ba bs.length bc, .slice ca C.length cc] 28)).alloc (.cells #[.int .i64 0, .int .i64 0, .int .i64 0, .slice none 0 0] 39)) ((((w.alloc (.cells #[.int .i64 N, .slice a l.length cap] 24)).alloc (.cells #[.slice ba bs.length bc, .slice ca C.length cc] 28)).alloc (.cells #[.int .i64 0, .int .i64 0, .int .i64 0, .slice none 0 0] 39)).alloc (.cells #[.int .i64 N, .slice a l.length cap, .slice ba bs.length bc, .slice ca C.length cc, .int .i64 lv, .int .i64 ce] 71)) := (Below.refl _ _).alloc (Nat.le_refl _) _
  rw [hsz] at hg3 hb1
  have hb2 : Below w.heap.size w ((((w.alloc (.cells #[.int .i64 N, .slice a l.length cap] 24)).alloc (.cells #[.slice ba bs.length bc, .slice ca C.length cc] 28)).alloc (.cells #[.int .i64 0, .int .i64 0, .int .i64 0, .slice none 0 0] 39)).alloc (.cells #[.int .i64 N, .slice a l.length cap, .slice ba bs.length bc, .slice ca C.length cc, .int .i64 lv, .int .i64 ce] 71)) := hb0.trans (hb1.mono (by omega))
  have hsz4 : (((((w.alloc (.cells #[.int .i64 N, .slice a l.length cap] 24)).alloc (.cells #[.slice ba bs.length bc, .slice ca C.length cc] 28)).alloc (.cells #[.int .i64 0, .int .i64 0, .int .i64 0, .slice none 0 0] 39)).alloc (.cells #[.int .i64 N, .slice a l.length cap, .slice ba bs.length bc, .slice ca C.length cc, .int .i64 lv, .int .i64 ce] 71))).heap.size = w.heap.size + 4 := by rw [World.size_alloc, hsz]
  have HK0 := Lib.hid ((hb1.block _ (by omega)).trans hg0)
  have HK1 := Lib.hid ((hb1.block _ (by omega)).trans hg1)
  have HK2 := Lib.hid ((hb1.block _ (by omega)).trans hg2)
  have HK3 := Lib.hid hg3
  obtain ⟨⟨z0, z1⟩, _⟩ := two_cells hg0
  obtain ⟨⟨z2, z3⟩, _⟩ := two_cells hg1
  obtain ⟨y0, y1, y2, y3, y4, y5⟩ := six_cells hg3
  have HIN := Lib.hid (plInner_any N a l cap ba bs bc ca C cc lv ce _ hl hbl (hr.on hb2) (hi.on hb2) (hR.on hb2))
  have HB0 := Lib.hid hb2
  have HRA := Lib.hid hr
  have HRI := Lib.hid hi
  have HRR := Lib.hid hR
  have HWT := Lib.hid hwt
  have HBF := Lib.hid (@by_facts N l bs (csl C) lv ce)
  have HWE : Hid ((whE N l bs (csl C) lv ce ep) = if inE N l bs (csl C) lv ce ≠ 0 then inE N l bs (csl C) lv ce else if epB ep = false then 1 else 0) := rfl
  have HBY : Hid (∀ m, byE N l bs (csl C) lv ce ep m = if inE N l bs (csl C) lv ce ≠ 0 then inE N l bs (csl C) lv ce else jbE ep m (inV N l bs (csl C) lv ce).length) := fun _ => rfl
  have HBA : Hid (∀ (W2 : World) (wa : Option Addr) (wk : Nat) (ws : List Int), Below w.heap.size w W2 → Wts W2 wa ws → (∀ i, i < ws.length → 0 ≤ ws.getD i 0 ∧ ws.getD i 0 < 4294967296) → Calls Tryz.prog 33 #[.agg #[.int .i64 N, .slice a l.length cap, .slice ba bs.length bc, .slice ca C.length cc, .int .i64 lv, .int .i64 ce], .int .i64 ep, .slice wa ws.length wk] W2 fun e w' => (byE N l bs (csl C) lv ce ep ws.length = 0 → ∃ v c, e = .returned (.tuple #[.agg #[.int .i64 lv, .int .i64 ce, .int .i64 ep, .slice v (mxL (wgL l (inV N l bs (csl C) lv ce) ws) (bdV N l bs (csl C) lv ce)).length c], .int .i64 0]) ∧ w'.ownsRow W2.heap.size 47 1 (.slice v (mxL (wgL l (inV N l bs (csl C) lv ce) ws) (bdV N l bs (csl C) lv ce)).length c) (mxL (wgL l (inV N l bs (csl C) lv ce) ws) (bdV N l bs (csl C) lv ce)).length (cellsU (mxL (wgL l (inV N l bs (csl C) lv ce) ws) (bdV N l bs (csl C) lv ce))) ∧ ∀ i, i < (bdV N l bs (csl C) lv ce).length → N5.IsD ((wgL l (inV N l bs (csl C) lv ce) ws).map toN) (fun _ => true) ((bdV N l bs (csl C) lv ce).getD i 0) (dF (wgL l (inV N l bs (csl C) lv ce) ws) ((bdV N l bs (csl C) lv ce).getD i 0))) ∧ (byE N l bs (csl C) lv ce ep ws.length ≠ 0 → e = .returned (.tuple #[.agg #[.int .i64 0, .int .i64 0, .int .i64 0, .slice none 0 0], .int .i64 (byE N l bs (csl C) lv ce ep ws.length)])) ∧ Below W2.heap.size W2 w') := fun W2 wa wk ws hb hw h4 => byArcs_any N a l cap ba bs bc ca C cc lv ce ep wa ws wk W2 hl hbl (hr.on hb) (hi.on hb) (hR.on hb) hw h4
  obtain ⟨E, HE⟩ := named (inE N l bs (csl C) lv ce)
  obtain ⟨ids, HID⟩ := named (inV N l bs (csl C) lv ce)
  obtain ⟨S, HS⟩ := named (bdV N l bs (csl C) lv ce)
  rw [HE.out, HID.out] at HIN
  rw [HE.out] at HWE
  rw [HE.out, HID.out] at HBY
  rw [HE.out, HID.out, HS.out] at HBF
  rw [HID.out, HS.out] at HBA
  obtain ⟨B, HBB⟩ := named (whE N l bs (csl C) lv ce ep)
  rw [HBB.out] at HWE
  rw [HBB.out, HID.out, HS.out]
  clear hr hi hR hwt hb0 hb1 hb2 hg0 hg1 hg2 hg3 HBB hsz
  generalize hp : w.heap.size = p at *
  go_enter Tryz.func12, Tryz.ntmps12
  go_wp2_with fail
  generalize hWW : ((((w.alloc (.cells #[.int .i64 N, .slice a l.length cap] 24)).alloc (.cells #[.slice ba bs.length bc, .slice ca C.length cc] 28)).alloc (.cells #[.int .i64 0, .int .i64 0, .int .i64 0, .slice none 0 0] 39)).alloc (.cells #[.int .i64 N, .slice a l.length cap, .slice ba bs.length bc, .slice ca C.length cc, .int .i64 lv, .int .i64 ce] 71)) = W at *
  clear hWW
  refine HIN.out.mono ?_
  rintro e w1 ⟨v1, rfl, hr1, hb1⟩
  have hz1 := hb1.size
  have HB1 : Hid (Below p w w1) := HB0.out.trans (hb1.mono (by omega))
  have HJ0 := Lib.hid ((hb1.block p (by omega)).trans HK0.out)
  have HJ2 := Lib.hid ((hb1.block (p + 1 + 1) (by omega)).trans HK2.out)
  have HJ3 := Lib.hid ((hb1.block (p + 3) (by omega)).trans HK3.out)
  have HI1 := Lib.hid hr1.ints
  have hw1 : p + 4 ≤ w1.heap.size := by omega
  clear hr1 hb1 HIN HB0 HK0 HK1 HK2 HK3 hz1 y0 y1 y2 y3 y4 y5 z0 z1 z2 z3
  have HR4 : Hid (∀ wr : World, wr.heap[p + 1 + 1]? = some (.cells #[.int .i64 0, .int .i64 0, .int .i64 0, .slice none 0 0] 39) → ((wr.cell? ⟨p + 1 + 1, 0, none⟩ = some (.int .i64 0) ∧ wr.cell? ⟨p + 1 + 1, 1, none⟩ = some (.int .i64 0) ∧ wr.cell? ⟨p + 1 + 1, 2, none⟩ = some (.int .i64 0) ∧ wr.cell? ⟨p + 1 + 1, 3, none⟩ = some (.slice none 0 0)) ∧ (wr.frozen? ⟨p + 1 + 1, 0, none⟩ = false ∧ wr.frozen? ⟨p + 1 + 1, 1, none⟩ = false ∧ wr.frozen? ⟨p + 1 + 1, 2, none⟩ = false ∧ wr.frozen? ⟨p + 1 + 1, 3, none⟩ = false))) := fun wr h => four_cells h
  have HZ4 : Hid (∀ wr : World, wr.heap[p + 1 + 1]? = some (.cells #[.int .i64 0, .int .i64 0, .int .i64 0, .slice none 0 0] 39) → Below p w wr → ((((((wr.setCell ⟨p + 1 + 1, 0, none⟩ (.int .i64 0)).setCell ⟨p + 1 + 1, 1, none⟩ (.int .i64 0)).setCell ⟨p + 1 + 1, 2, none⟩ (.int .i64 0)).setCell ⟨p + 1 + 1, 3, none⟩ (.slice none 0 0)).heap[p + 1 + 1]? = some (.cells #[.int .i64 0, .int .i64 0, .int .i64 0, .slice none 0 0] 39)) ∧ Below p w ((((wr.setCell ⟨p + 1 + 1, 0, none⟩ (.int .i64 0)).setCell ⟨p + 1 + 1, 1, none⟩ (.int .i64 0)).setCell ⟨p + 1 + 1, 2, none⟩ (.int .i64 0)).setCell ⟨p + 1 + 1, 3, none⟩ (.slice none 0 0)))) := fun wr h hb => ⟨set4 h _ _ _ _, below_set4 hb (by omega) _ _ _ _⟩
  by_cases h1 : E = 0
  · subst h1
    obtain ⟨n, rfl, hC0, hid, h8, hSn⟩ := HBF.out rfl
    have HWE : Hid (B = if epB ep = false then 1 else 0) := by show _ = _; rw [HWE.out, if_neg (by simp)]
    have HWG := Lib.hid (weights_any n a l cap v1 (ints ids) ids.length w1 hl (by rw [ints_len]; omega) (HRA.out.on (hp ▸ HB1.out)) HI1.out)
    rw [wq_ints hC0 hid h8] at HWG
    rw [ints_len] at HWG
    have HRG := Lib.hid (wt_range HWT.out hid)
    have HWL : Hid ((wtL l (ints ids)).length = ids.length) := by show _ = _; rw [wtL_len, ints_len]
    obtain ⟨⟨k0, k1⟩, _⟩ := two_cells HJ0.out
    go_wp2_with fail
    refine HWG.out.mono ?_
    rintro e w2 ⟨hok, _, hb2⟩
    obtain ⟨gw, rfl, hgw, hWt⟩ := hok (by simp)
    have HB2 : Hid (Below p w w2) := HB1.out.trans (hb2.mono (by omega))
    have HL2 := Lib.hid ((hb2.block (p + 1 + 1) (by omega)).trans HJ2.out)
    have hL3 := (hb2.block (p + 3) (by omega)).trans HJ3.out
    obtain ⟨y0, y1, y2, y3, y4, y5⟩ := six_cells hL3
    have hw2 : p + 4 ≤ w2.heap.size := by have := hb2.size; omega
    have HBC := Lib.hid (HBA.out w2 (some ⟨gw, 0, none⟩) ids.length (wtL l (ints ids)) HB2.out hWt HRG.out)
    rw [HWL.out, HBY.out] at HBC
    have HJE : Hid ((if (0 : Int) ≠ 0 then 0 else jbE ep ids.length ids.length) = B) := by
      show _ = _
      rw [if_neg (by simp), HWE.out]
      unfold jbE
      by_cases h : epB ep = false
      · rw [if_pos h, if_pos h]
      · rw [if_neg h, if_neg h, if_neg (by simp)]
    rw [HJE.out] at HBC
    clear HWG hok hb2 hWt k0 k1 hL3
    go_wp2_with fail
    refine HBC.out.mono ?_
    rintro e w5 ⟨hok, hno, hb5⟩
    have hK5 := (hb5.block (p + 1 + 1) (by omega)).trans HL2.out
    obtain ⟨⟨d0, d1, d2, d3⟩, f0, f1, f2, f3⟩ := HR4.out w5 hK5
    have hB5 : Below p w w5 := HB2.out.trans (hb5.mono (by omega))
    by_cases h : B = 0
    · subst h
      obtain ⟨v, c, rfl, hown, hD⟩ := hok rfl
      obtain ⟨X, HX⟩ := named (mxL (wgL l ids (wtL l (ints ids))) S)
      rw [HX.out] at hown
      rw [HX.out]
      have HR5 := Lib.hid (four_cells (set4 hK5 (.int .i64 lv) (.int .i64 ce) (.int .i64 ep) (.slice v X.length c))).1
      have HO5 := Lib.hid (own_base (own_set4 hown (show p + 1 + 1 < w2.heap.size by omega) (.int .i64 lv) (.int .i64 ce) (.int .i64 ep) (.slice v X.length c)) (show p ≤ w2.heap.size by omega))
      have HB5 := Lib.hid (below_set4 hB5 (show p ≤ p + 1 + 1 by omega) (.int .i64 lv) (.int .i64 ce) (.int .i64 ep) (.slice v X.length c))
      have HD5 := Lib.hid hD
      clear hK5 hown hD hb5 HBC hok hno y0 y1 y2 y3 y4 y5 hB5
      go_wp2_with fail
      obtain ⟨r0, r1, r2, r3⟩ := HR5.out
      have HXW : Hid (mxL (wiL l ids) S = X) := HX.out
      rw [HXW.out]
      refine bodyPost_ret (v := .tuple #[.agg #[.int .i64 lv, .int .i64 ce, .int .i64 ep, .slice v X.length c], .int .i64 0]) (by simp [results, Tryz.results12, go_sem, r0, r1, r2, r3]) rfl ?_
      first | exact ⟨⟨v, c, rfl, HO5.out, HD5.out⟩, HB5.out⟩ | exact ⟨fun _ => ⟨v, c, rfl, HO5.out, HD5.out⟩, fun h => absurd rfl h, HB5.out⟩
    · obtain rfl := hno h
      obtain ⟨r4, HBZ⟩ := HZ4.out w5 hK5 hB5
      have HR5 := Lib.hid (HR4.out _ r4).1
      have HB5 := Lib.hid HBZ
      clear hK5 hb5 HBC hok hno r4 HBZ y0 y1 y2 y3 y4 y5 hB5
      go_wp2_with fail
      obtain ⟨r0, r1, r2, r3⟩ := HR5.out
      refine bodyPost_ret (v := .tuple #[.agg #[.int .i64 0, .int .i64 0, .int .i64 0, .slice none 0 0], .int .i64 B]) (by simp [results, Tryz.results12, go_sem, r0, r1, r2, r3]) rfl ?_
      exact ⟨fun h' => absurd h' h, fun _ => rfl, HB5.out⟩
  · have e1 : (E != 0) = true := by simpa using h1
    obtain rfl : B = E := by rw [HWE.out, if_pos h1]
    obtain ⟨⟨d0, d1, d2, d3⟩, f0, f1, f2, f3⟩ := HR4.out w1 HJ2.out
    obtain ⟨r4, HBZ⟩ := HZ4.out w1 HJ2.out HB1.out
    have HRZ := Lib.hid (HR4.out _ r4).1
    have HBZ := Lib.hid HBZ
    clear r4
    go_wp2_with fail
    obtain ⟨r0, r1, r2, r3⟩ := HRZ.out
    refine bodyPost_ret (v := .tuple #[.agg #[.int .i64 0, .int .i64 0, .int .i64 0, .slice none 0 0], .int .i64 B]) (by simp [results, Tryz.results12, go_sem, r0, r1, r2, r3]) rfl ?_
    exact ⟨fun h => absurd h h1, fun _ => rfl, HBZ.out⟩
end Go.Proofs.YtpmjbeiclmllmaaGreat
namespace Go.Proofs.YtpmjbeiclmllmaaGreat
open Go.RowKit
/-- The vertices of a cell. -/
def inC (L : List Int) (q : Int) (v : Nat) : Bool := decide (L.getD v 0 = q)
/-- Walks within a cell, by all arcs, are walks by the arcs inside. -/
theorem wk_in {l m : List N5.A} {ok : Nat → Bool} {s v : Nat} {d : Int} (hm : ∀ x ∈ l, ok (N5.src x) = true → ok (N5.dst x) = true → x ∈ m) (h : N5.Wk l ok s v d) : N5.Wk m (fun _ => true) s v d ∧ ok v = true := by
  induction h with
  | nil e => exact ⟨N5.Wk.nil rfl, e⟩
  | snoc hx _ ho ih => exact ⟨N5.Wk.snoc (hm _ hx ih.2 ho) ih.1 rfl, ho⟩
theorem wk_out {l m : List N5.A} {ok : Nat → Bool} {s v : Nat} {d : Int} (hs : ok s = true) (hm : ∀ x ∈ m, x ∈ l ∧ ok (N5.dst x) = true) (h : N5.Wk m (fun _ => true) s v d) : N5.Wk l ok s v d := by
  induction h with
  | nil _ => exact N5.Wk.nil hs
  | snoc hx _ _ ih => exact N5.Wk.snoc (hm _ hx).1 ih (hm _ hx).2
theorem isD_in {l m : List N5.A} {ok : Nat → Bool} {s : Nat} {F : Nat → Int} (hs : ok s = true) (h1 : ∀ x ∈ l, ok (N5.src x) = true → ok (N5.dst x) = true → x ∈ m) (h2 : ∀ x ∈ m, x ∈ l ∧ ok (N5.dst x) = true) (h : N5.IsD l ok s F) : N5.IsD m (fun _ => true) s F :=
  ⟨h.lo, h.hi, fun v hv => (wk_in h1 (h.wk v hv)).1, fun v d hw => h.le v d (wk_out hs h2 hw)⟩
/-- A graph's arcs, some with other weights. -/
def rwA (l : List A) (ids : List Nat) (ws : List Int) (i : Nat) : A := if ids.contains i then ⟨(l.getD i A.zero).f, (l.getD i A.zero).t, ws.getD (ids.idxOf i) 0⟩ else l.getD i A.zero
def rwL (l : List A) (ids : List Nat) (ws : List Int) : List A := (List.range l.length).map (rwA l ids ws)
theorem rwL_len (l : List A) (ids : List Nat) (ws : List Int) : (rwL l ids ws).length = l.length := by simp [rwL]
theorem rwL_at {l : List A} {ids : List Nat} {ws : List Int} {i : Nat} (h : i < l.length) : (rwL l ids ws).getD i A.zero = rwA l ids ws i := by simp [rwL, List.getD, h]
theorem rwA_ends (l : List A) (ids : List Nat) (ws : List Int) (i : Nat) : (rwA l ids ws i).f = (l.getD i A.zero).f ∧ (rwA l ids ws i).t = (l.getD i A.zero).t := by
  unfold rwA
  split <;> exact ⟨rfl, rfl⟩
theorem idxOf_getD {ids : List Nat} (hn : ids.Nodup) {k : Nat} (hk : k < ids.length) : ids.idxOf (ids.getD k 0) = k := by
  rw [show ids.getD k 0 = ids[k] by simp [List.getD, List.getElem?_eq_getElem hk]]
  exact List.Nodup.idxOf_getElem hn k hk
/-- The arcs inside a cell, of the graph with other weights. -/
theorem wg_rw {l : List A} {L : List Int} {q : Int} {ids : List Nat} {ws : List Int} (hids : ids = arL l (hld L q)) (hnd : ids.Nodup) : (∀ x ∈ (rwL l ids ws).map toN, inC L q (N5.src x) = true → inC L q (N5.dst x) = true → x ∈ (wgL l ids ws).map toN) ∧ (∀ x ∈ (wgL l ids ws).map toN, x ∈ (rwL l ids ws).map toN ∧ inC L q (N5.dst x) = true) := by
  have hmem : ∀ i, i ∈ ids ↔ i < l.length ∧ hld L q (l.getD i A.zero) = true := fun i => by
    rw [hids]
    unfold arL
    rw [cho_mem]
    rfl
  have hin : ∀ x : A, hld L q x = true ↔ inC L q x.f.toNat = true ∧ inC L q x.t.toNat = true := fun x => by
    unfold hld inC lb
    simp
  constructor
  · intro y hy h1 h2
    obtain ⟨z, hz, rfl⟩ := List.mem_map.1 hy
    unfold rwL at hz
    obtain ⟨i, hi, rfl⟩ := List.mem_map.1 hz
    have hi' : i < l.length := by simpa using hi
    obtain ⟨e1, e2⟩ := rwA_ends l ids ws i
    have hm : i ∈ ids := (hmem i).2 ⟨hi', (hin _).2 ⟨by rw [← e1]; exact h1, by rw [← e2]; exact h2⟩⟩
    obtain ⟨k, hk, hke⟩ := List.getElem_of_mem hm
    have hkd : ids.getD k 0 = i := by simp [List.getD, List.getElem?_eq_getElem hk, hke]
    refine List.mem_map.2 ⟨wgA l ids ws k, List.mem_map.2 ⟨k, by simpa using hk, rfl⟩, ?_⟩
    have hx := idxOf_getD hnd hk
    rw [hkd] at hx
    unfold rwA wgA
    rw [if_pos (by simpa using hm), hkd, hx]
  · intro y hy
    obtain ⟨z, hz, rfl⟩ := List.mem_map.1 hy
    unfold wgL at hz
    obtain ⟨k, hk, rfl⟩ := List.mem_map.1 hz
    have hk' : k < ids.length := by simpa using hk
    have hm : ids.getD k 0 ∈ ids := by
      rw [show ids.getD k 0 = ids[k] by simp [List.getD, List.getElem?_eq_getElem hk']]
      exact List.getElem_mem hk'
    obtain ⟨h1, h2⟩ := (hmem _).1 hm
    have hx := idxOf_getD hnd hk'
    refine ⟨List.mem_map.2 ⟨rwA l ids ws (ids.getD k 0), List.mem_map.2 ⟨ids.getD k 0, by simpa using h1, rfl⟩, ?_⟩, ((hin _).1 h2).2⟩
    unfold rwA wgA
    rw [if_pos (by simpa using hm), hx]
theorem arL_nodup (l : List A) (p : A → Bool) : (arL l p).Nodup := by
  unfold arL cho
  exact List.Pairwise.filter _ List.nodup_range
/-- What the reference and the program say of a vertex's distances within a cell is one. -/
theorem rw_dF {l : List A} {L : List Int} {q : Int} {ids : List Nat} {ws : List Int} {s : Nat} {F : Nat → Int} (hids : ids = arL l (hld L q)) (hs : inC L q s = true) (h : N5.IsD ((rwL l ids ws).map toN) (inC L q) s F) : F = dF (wgL l ids ws) s := by
  obtain ⟨h1, h2⟩ := wg_rw (ws := ws) hids (by rw [hids]; exact arL_nodup _ _)
  exact (dF_is (isD_in hs h1 h2 h)).symm
/-- With the weights that the arcs have, the graph stays. -/
theorem rw_self {l : List A} {ids : List Nat} (hnd : ids.Nodup) : rwL l ids (wtL l (ints ids)) = l := by
  apply List.ext_getElem
  · simp [rwL]
  · intro i h1 h2
    have e1 : (rwL l ids (wtL l (ints ids)))[i] = (rwL l ids (wtL l (ints ids))).getD i A.zero := by simp [List.getD, List.getElem?_eq_getElem h1]
    have e2 : l[i] = l.getD i A.zero := by simp [List.getD, List.getElem?_eq_getElem h2]
    rw [e1, e2, rwL_at h2]
    unfold rwA
    split
    · rename_i h
      have hm : i ∈ ids := by simpa using h
      obtain ⟨k, hk, hke⟩ := List.getElem_of_mem hm
      have hkd : ids.getD k 0 = i := by simp [List.getD, List.getElem?_eq_getElem hk, hke]
      have hx := idxOf_getD hnd hk
      rw [hkd] at hx
      rw [hx, wtL_at (by rw [ints_len]; exact hk), ints_getD hk, Int.toNat_natCast, hkd]
    · rfl
end Go.Proofs.YtpmjbeiclmllmaaGreat
namespace Go.Proofs.YtpmjbeiclmllmaaGreat
open Go.RowKit
/-- append of arcs that came in, nil or not, to a row of the call's own. -/
theorem wp_append_camea {P : Program} {w : World} {o : Oper} {a : Act} {K : Act → World → Prop} {Q : Exit → Act → World → Prop} (s x : Operand) (t : TypeId)
    (ho : o.op = .call { callee := .builtin .append, args := #[s, x], argTypes := #[t, t] })
    (base : Nat) (i : TypeInfo) (ht : P.underlying t = some (.slice 68)) (hi : P.info? 68 = some i) (hz : i.zero = some (.agg #[.int .i64 0, .int .i64 0, .int .u32 0])) (hsize : i.size = 3) (hby : i.bytes = 24)
    (v : Value) (n : Nat) (xs : List Value) (hs : a.eval s = v) (hown : w.ownsRow base 68 3 v n xs) (hv : v ≠ .slice none 0 0)
    (r : Option Addr) (ys : List A) (c : Nat) (hx : a.eval x = .slice r ys.length c) (hn : r = none → ys = [] ∧ c = 0) (hr : Arcs w r ys)
    (h63 : n + ys.length ≤ maxLen) (hbytes : (n + ys.length) * 24 ≤ 140737488355328) (hbase : base ≤ w.heap.size)
    (h : ∀ v' w', w'.ownsRow base 68 3 v' (n + ys.length) (xs ++ cellsA ys) → w.grownBy w' v.ownBlock → v' ≠ .slice none 0 0 → K (a.put o.dst v') w') : o.wp P a w K Q := by
  match r, hx, hn, hr with
  | none, hx, hn, _ =>
    obtain ⟨rfl, rfl⟩ := hn rfl
    have hrun := run_append_owned_none (P := P) (w := w) base t o.type 68 i 3 ht hi v n xs hown
    unfold Oper.wp
    simp only [List.length_nil] at hx
    simp [execOp, ho, resolve, invoke, builtin, hs, hx, hrun, Result.andThen]
    exact h v w (by simpa [cellsA] using hown) (World.grownBy.refl _ _) hv
  | some ad, hx, _, hr =>
    refine wp_append_own w s x t ho base 68 i (.agg #[.int .i64 0, .int .i64 0, .int .u32 0]) 3 24 ht hi hz hsize hby rfl (by decide) v n xs hs hown ad ys.length c (cellsA ys) hx (cellsA_len ys) (fun j u hu => ?_) (cellsA_one ys) h63 hbytes hbase (fun v' w' h2 h3 h4 => h v' w' h2 h3 (fun e => hv (h4.1 e).1))
    rcases hr with h0 | ⟨b, o2, e1, hb, h5⟩
    · subst h0; simp [cellsA] at hu
    · injection e1 with e1
      subst e1
      rw [Go.WideShapes.add_plain]
      have := cells_of_at (w := w) (b := b) (o := o2) ys 0 (fun j hj => by rw [Nat.zero_add]; exact h5 j hj) j u hu
      simpa using this
set_option maxRecDepth 100000 in
set_option maxHeartbeats 3200000 in
theorem rcopy_any (N : Int) (a : Option Addr) (l : List A) (cap : Nat) (w : World) (hlen : l.length * 24 ≤ 140737488351232) (hna : a = none → l = [] ∧ cap = 0) (hr : Arcs w a l) :
    Calls Tryz.prog 72 #[.agg #[.int .i64 N, .slice a l.length cap]] w fun e w' => ∃ g c, e = .returned (.agg #[.int .i64 N, .slice (some ⟨g, 0, none⟩) l.length c]) ∧ w'.ownsRow w.heap.size 68 3 (.slice (some ⟨g, 0, none⟩) l.length c) l.length (cellsA l) ∧ Below w.heap.size w w' := by
  obtain ⟨hg0, hg1, hb0, hsz⟩ := top2 w (.cells #[.int .i64 N, .slice a l.length cap] 24) (.cells #[.int .i64 0, .slice none 0 0] 24)
  obtain ⟨i0, hi0, hz0, hs0, hby0⟩ := info_parts info53
  have HNA := Lib.hid hna
  have HB0 := Lib.hid hb0
  have HG0 := Lib.hid hg0
  have HG1 := Lib.hid hg1
  have HARW := Lib.hid (hr.on hb0)
  clear hr hna hb0 hg0 hg1
  generalize hp : w.heap.size = p at *
  go_enter Tryz.func72, Tryz.ntmps72
  go_wp2_with fail
  generalize hWW : (w.alloc (.cells #[.int .i64 N, .slice a l.length cap] 24)).alloc (.cells #[.int .i64 0, .slice none 0 0] 24) = W at *
  clear hWW
  have HSS : Hid (∀ w' : World, Below W.heap.size W w' → w'.cell? ⟨p, 0, none⟩ = some (.int .i64 N) ∧ w'.cell? ⟨p, 1, none⟩ = some (.slice a l.length cap)) := fun W2 hb => (two_cells ((hb.block p (by omega)).trans HG0.out)).1
  have HB00 : Hid (Below W.heap.size W W.drew) := (Below.refl _ _).drew
  refine wp_region_held_drew (S := fun w' => w'.cell? ⟨p, 0, none⟩ = some (.int .i64 N) ∧ w'.cell? ⟨p, 1, none⟩ = some (.slice a l.length cap)) (by kernel_rfl) (HSS.out _ HB00.out) ?_
  intro hS0
  generalize W.drew = Wd at *
  simp only [List.size_toArray, List.length_cons, List.length_nil]
  refine wpAnyH_take (i := 0) (v := ?_) rfl (by kernel_rfl) (by decide +kernel) (by decide +kernel) (fun _ _ _ h => h) (Or.inl ⟨by rfl, ?_⟩) (by assumption) ?_
  rotate_left
  · intro w hSw
    (try dsimp only at hSw)
    go_simp
    (try with_reducible rfl)
  try simp only [Act.put, List.getElem_toArray, List.getElem_cons_zero, List.setIfInBounds_toArray, List.set_cons_zero, List.set_cons_succ]
  refine wpAnyH_take (i := 1) (v := ?_) rfl (by kernel_rfl) (by decide +kernel) (by decide +kernel) (fun _ _ _ h => h) (Or.inl ⟨by rfl, ?_⟩) (by assumption) ?_
  rotate_left
  · intro w hSw
    (try dsimp only at hSw)
    go_simp
    (try with_reducible rfl)
  try simp only [Act.put, List.getElem_toArray, List.getElem_cons_zero, List.getElem_cons_succ, List.setIfInBounds_toArray, List.set_cons_zero, List.set_cons_succ]
  refine wpAnyH_take (i := 3) (v := ?_) rfl (by kernel_rfl) (by decide +kernel) (by decide +kernel) (fun _ _ _ h => h) (Or.inl ⟨by rfl, ?_⟩) (by assumption) ?_
  rotate_left
  · intro w hSw
    (try dsimp only at hSw)
    go_simp
    (try with_reducible rfl)
  try simp only [Act.put, List.getElem_toArray, List.getElem_cons_zero, List.getElem_cons_succ, List.setIfInBounds_toArray, List.set_cons_zero, List.set_cons_succ]
  refine wpAnyH_take (i := 4) (v := ?_) rfl (by kernel_rfl) (by decide +kernel) (by decide +kernel) (fun _ _ _ h => h) (Or.inl ⟨by rfl, ?_⟩) (by assumption) ?_
  rotate_left
  · intro w hSw
    (try dsimp only at hSw)
    go_simp
    (try with_reducible rfl)
  try simp only [Act.put, List.getElem_toArray, List.getElem_cons_zero, List.getElem_cons_succ, List.setIfInBounds_toArray, List.set_cons_zero, List.set_cons_succ]
  refine wpAnyH_ready (rs := [2]) (by kernel_rfl) (by simp) ?_
  refine AllReadyH.cons rfl (fun K hK => ?_) AllReadyH.nil
  go_simp
  have HO0 : Hid ((Wd.alloc (.cells #[] 68)).ownsRow Wd.heap.size 68 3 (.slice (some ⟨Wd.heap.size, 0, none⟩) 0 0) 0 []) := World.ownsRow_lit (base := Wd.heap.size) (e := 68) (size := 3) Wd #[] 0 (Nat.le_refl _) (by decide) rfl
  have hbl : Below Wd.heap.size Wd (Wd.alloc (.cells #[] 68)) := (Below.refl _ _).alloc (Nat.le_refl _) _
  have HBL : Hid (Below W.heap.size W (Wd.alloc (.cells #[] 68))) := HB00.out.trans (hbl.mono HB00.out.size)
  have HAR := Lib.hid ((HARW.out.on HB00.out).on hbl)
  have hzl : (Wd.alloc (.cells #[] 68)).heap.size = Wd.heap.size + 1 := by simp
  have hzd := HB00.out.size
  refine hK.out _ _ (HSS.out _ HBL.out) (fun _ => ?_)
  clear hK K hbl
  try simp only [Act.put, List.getElem_toArray, List.getElem_cons_zero, List.getElem_cons_succ, List.setIfInBounds_toArray, List.set_cons_zero, List.set_cons_succ]
  refine wpAnyH_ready (rs := [5]) (by kernel_rfl) (by simp) ?_
  refine AllReadyH.cons rfl (fun K hK => ?_) AllReadyH.nil
  rw [if_pos (by rfl)]
  refine wp_append_camea (.tmp 5) (.tmp 7) 22 rfl Wd.heap.size i0 Tryz.underlying22 hi0 hz0 hs0 hby0 (.slice (some ⟨Wd.heap.size, 0, none⟩) 0 0) 0 [] rfl HO0.out (by simp) a l cap rfl HNA.out HAR.out (by unfold maxLen; omega) (by omega) (by omega) ?_
  intro v5 w5 hown5 hgrow5 hnil5
  obtain ⟨g5, c5, hv5, hg5, _, _, _⟩ := own_shape hown5 hnil5
  rw [hv5] at hown5 ⊢
  simp only [Nat.zero_add, List.nil_append] at hown5 ⊢
  have HB5 : Hid (Below W.heap.size W w5) := HBL.out.grown hgrow5 (by omega) (fun j hj => by have h2 : Wd.heap.size = j := Option.some.inj hj; omega)
  have HO5 := Lib.hid hown5
  refine hK.out _ _ (HSS.out _ HB5.out) (fun _ => ?_)
  clear hK K hown5 hgrow5 hnil5 hv5
  try simp only [Act.put, List.getElem_toArray, List.getElem_cons_zero, List.getElem_cons_succ, List.setIfInBounds_toArray, List.set_cons_zero, List.set_cons_succ]
  refine wpAnyH_take (i := 6) (v := ?_) rfl (by kernel_rfl) (by decide +kernel) (by decide +kernel) (fun _ _ _ h => h) (Or.inl ⟨by rfl, ?_⟩) (by assumption) ?_
  rotate_left
  · intro w hSw
    (try dsimp only at hSw)
    go_simp
    (try with_reducible rfl)
  try simp only [Act.put, List.getElem_toArray, List.getElem_cons_zero, List.getElem_cons_succ, List.setIfInBounds_toArray, List.set_cons_zero, List.set_cons_succ]
  have hR5 := (HB5.out.block (p + 1) (by omega)).trans HG1.out
  obtain ⟨⟨z0, z1⟩, zf0, zf1⟩ := two_cells hR5
  have HB6 : Hid (Below p w ((w5.setCell ⟨p + 1, 0, none⟩ (.int .i64 N)).setCell ⟨p + 1, 1, none⟩ (.slice (some ⟨g5, 0, none⟩) l.length c5))) := ((HB0.out.trans (HB5.out.mono (by omega))).setCell (p := ⟨p + 1, 0, none⟩) (by simp) _).setCell (p := ⟨p + 1, 1, none⟩) (by simp) _
  have HO6 := Lib.hid (own_base (own_set (own_set HO5.out ⟨p + 1, 0, none⟩ (.int .i64 N) (show p + 1 < _ by omega)) ⟨p + 1, 1, none⟩ (.slice (some ⟨g5, 0, none⟩) l.length c5) (show p + 1 < _ by omega)) (show p ≤ Wd.heap.size by omega))
  have h63 : ((w5.setCell ⟨p + 1, 0, none⟩ (.int .i64 N)).setCell ⟨p + 1, 1, none⟩ (.slice (some ⟨g5, 0, none⟩) l.length c5)).heap[p + 1]? = some (.cells #[.int .i64 N, .slice (some ⟨g5, 0, none⟩) l.length c5] 24) := (heap_setCell_same _ (p + 1) 1 _ _ (.slice (some ⟨g5, 0, none⟩) l.length c5) (heap_setCell_same w5 (p + 1) 0 _ _ (.int .i64 N) hR5)).trans (by simp)
  have HR6 := Lib.hid (two_cells h63).1
  have HSZ : Hid (((w5.setCell ⟨p + 1, 0, none⟩ (.int .i64 N)).setCell ⟨p + 1, 1, none⟩ (.slice (some ⟨g5, 0, none⟩) l.length c5)).cell? ⟨p, 0, none⟩ = some (.int .i64 N) ∧ ((w5.setCell ⟨p + 1, 0, none⟩ (.int .i64 N)).setCell ⟨p + 1, 1, none⟩ (.slice (some ⟨g5, 0, none⟩) l.length c5)).cell? ⟨p, 1, none⟩ = some (.slice a l.length cap)) := by
    obtain ⟨y0, y1⟩ := HSS.out _ HB5.out
    have f : ∀ k, ((w5.setCell ⟨p + 1, 0, none⟩ (.int .i64 N)).setCell ⟨p + 1, 1, none⟩ (.slice (some ⟨g5, 0, none⟩) l.length c5)).cell? ⟨p, k, none⟩ = w5.cell? ⟨p, k, none⟩ := fun k => (World.cell?_of_block (a := ⟨p, k, none⟩) (Below.heap_setCell _ ⟨p + 1, 1, none⟩ _ p (by show p ≠ p + 1; omega))).trans (World.cell?_of_block (a := ⟨p, k, none⟩) (Below.heap_setCell _ ⟨p + 1, 0, none⟩ _ p (by show p ≠ p + 1; omega)))
    exact ⟨(f 0).trans y0, (f 1).trans y1⟩
  refine wpAnyH_ready (rs := [7]) (by kernel_rfl) (by simp) ?_
  refine AllReadyH.cons rfl (fun K hK => ?_) AllReadyH.nil
  go_simp
  refine hK.out _ _ HSZ.out (fun _ => ?_)
  clear hK K
  try simp only [Act.put, List.getElem_toArray, List.getElem_cons_zero, List.getElem_cons_succ, List.setIfInBounds_toArray, List.set_cons_zero, List.set_cons_succ]
  refine wpAnyH_done (by kernel_rfl) ?_ _
  go_wp2_with fail
  obtain ⟨r0, r1⟩ := HR6.out
  refine bodyPost_ret (v := .agg #[.int .i64 N, .slice (some ⟨g5, 0, none⟩) l.length c5]) (by simp [results, Tryz.results72, go_sem, r0, r1]) rfl ?_
  exact ⟨g5, c5, rfl, HO6.out, HB6.out⟩
set_option maxRecDepth 100000 in
set_option maxHeartbeats 3200000 in
theorem repochs_any (x : Int) (w : World) : Calls Tryz.prog 35 #[.int .i64 x] w fun e w' => e = .returned (.bool (epB x)) ∧ w' = w := by
  unfold epB
  by_cases h1 : 0 ≤ x
  · rw [decide_eq_true h1]
    by_cases h2 : x ≤ 1073741824
    · rw [decide_eq_true h2]
      go_enter Tryz.func35, Tryz.ntmps35
      go_wp2_with fail
      go_ret
      exact ⟨rfl, rfl⟩
    · rw [decide_eq_false h2]
      go_enter Tryz.func35, Tryz.ntmps35
      go_wp2_with fail
      go_ret
      exact ⟨rfl, rfl⟩
  · rw [decide_eq_false h1]
    go_enter Tryz.func35, Tryz.ntmps35
    go_wp2_with fail
    go_ret
    exact ⟨rfl, rfl⟩
/-- A graph's arcs, the first of some with other weights. -/
def rwKA (l : List A) (ids : List Nat) (ws : List Int) (k i : Nat) : A := if (ids.take k).contains i then ⟨(l.getD i A.zero).f, (l.getD i A.zero).t, ws.getD (ids.idxOf i) 0⟩ else l.getD i A.zero
def rwK (l : List A) (ids : List Nat) (ws : List Int) (k : Nat) : List A := (List.range l.length).map (rwKA l ids ws k)
theorem rwK_len (l : List A) (ids : List Nat) (ws : List Int) (k : Nat) : (rwK l ids ws k).length = l.length := by simp [rwK]
theorem rwK_at {l : List A} {ids : List Nat} {ws : List Int} {k i : Nat} (h : i < l.length) : (rwK l ids ws k).getD i A.zero = rwKA l ids ws k i := by simp [rwK, List.getD, h]
theorem ext_getA {X Y : List A} (h : X.length = Y.length) (h2 : ∀ i, i < X.length → X.getD i A.zero = Y.getD i A.zero) : X = Y := by
  apply List.ext_getElem h
  intro i h3 h4
  have := h2 i h3
  simpa [List.getD, h3, h4] using this
theorem rwK_zero (l : List A) (ids : List Nat) (ws : List Int) : rwK l ids ws 0 = l := ext_getA (rwK_len _ _ _ _) (fun i hi => by
  rw [rwK_len] at hi
  rw [rwK_at hi]
  simp [rwKA])
theorem rwK_all (l : List A) (ids : List Nat) (ws : List Int) : rwK l ids ws ids.length = rwL l ids ws := by
  unfold rwK rwL
  refine List.map_congr_left (fun i _ => ?_)
  unfold rwKA rwA
  rw [List.take_length]
theorem rwKA_ends (l : List A) (ids : List Nat) (ws : List Int) (k i : Nat) : (rwKA l ids ws k i).f = (l.getD i A.zero).f ∧ (rwKA l ids ws k i).t = (l.getD i A.zero).t := by
  unfold rwKA
  split <;> exact ⟨rfl, rfl⟩
theorem rwK_set {l : List A} {ids : List Nat} {ws : List Int} {k : Nat} (hnd : ids.Nodup) (hk : k < ids.length) (hi : ids.getD k 0 < l.length) : (rwK l ids ws k).set (ids.getD k 0) ⟨((rwK l ids ws k).getD (ids.getD k 0) A.zero).f, ((rwK l ids ws k).getD (ids.getD k 0) A.zero).t, ws.getD k 0⟩ = rwK l ids ws (k + 1) := by
  have hx := idxOf_getD hnd hk
  have htk : ids.take (k + 1) = ids.take k ++ [ids.getD k 0] := take_snocS hk
  refine ext_getA (by rw [List.length_set, rwK_len, rwK_len]) (fun i h => ?_)
  rw [List.length_set, rwK_len] at h
  rw [rwK_at h, rwK_at hi]
  obtain ⟨e1, e2⟩ := rwKA_ends l ids ws k (ids.getD k 0)
  rw [e1, e2]
  have f1 : ∀ (ik : Nat) (x : A), ik < l.length → ((rwK l ids ws k).set ik x).getD ik A.zero = x := fun ik x h => by
    simp only [List.getD]
    rw [List.getElem?_set_self (by rw [rwK_len]; exact h)]
    rfl
  have f2 : ∀ (ik : Nat) (x : A), ik ≠ i → ((rwK l ids ws k).set ik x).getD i A.zero = (rwK l ids ws k).getD i A.zero := fun ik x h => by
    simp only [List.getD]
    rw [List.getElem?_set_ne h]
  by_cases e : ids.getD k 0 = i
  · rw [← e, f1 _ _ hi]
    unfold rwKA
    rw [htk, if_pos (by simp), hx]
  · rw [f2 _ _ e, rwK_at h]
    unfold rwKA
    have e4 : (ids.take (k + 1)).contains i = (ids.take k).contains i := by
      rw [htk]
      have : i ≠ ids.getD k 0 := fun h => e h.symm
      generalize ids.getD k 0 = ik at *
      simp [this]
    rw [e4]
theorem arcs_ownA {w : World} {B g c : Nat} {l : List A} (h : w.ownsRow B 68 3 (.slice (some ⟨g, 0, none⟩) l.length c) l.length (cellsA l)) : Arcs w (some ⟨g, 0, none⟩) l := by
  refine Or.inr ⟨g, 0, rfl, (h.lt g rfl).2, fun j hj => ?_⟩
  obtain ⟨h1, h2, h3⟩ := cellsA_at l j hj
  rw [Nat.zero_add]
  exact ⟨(World.ownsRow.cellAt h (j * 3) (by omega)).trans h1, (World.ownsRow.cellAt h (j * 3 + 1) (by omega)).trans h2, (World.ownsRow.cellAt h (j * 3 + 2) (by omega)).trans h3⟩
end Go.Proofs.YtpmjbeiclmllmaaGreat
namespace Go.Proofs.YtpmjbeiclmllmaaGreat
open Go.RowKit
set_option maxRecDepth 100000 in
set_option maxHeartbeats 3200000 in
theorem rweighed_any (N : Int) (a : Option Addr) (l : List A) (cap : Nat) (ia : Option Addr) (ids : List Nat) (ic : Nat) (wa : Option Addr) (ws : List Int) (wk m : Nat) (w : World) (hl8 : l.length ≤ 8192) (hna : a = none → l = [] ∧ cap = 0) (hm : ids.length = m) (hw : ws.length = m) (hm8 : m ≤ 8192) (hnd : ids.Nodup) (hid : ∀ i, i < m → ids.getD i 0 < l.length) (hr : Arcs w a l) (hi : Ints w ia (ints ids)) (hW : Wts w wa ws) :
    Calls Tryz.prog 37 #[.agg #[.int .i64 N, .slice a l.length cap], .slice ia m ic, .slice wa m wk] w fun e w' => ∃ g c, e = .returned (.agg #[.int .i64 N, .slice (some ⟨g, 0, none⟩) l.length c]) ∧ w'.ownsRow w.heap.size 68 3 (.slice (some ⟨g, 0, none⟩) l.length c) l.length (cellsA (rwL l ids ws)) ∧ Below w.heap.size w w' := by
  obtain ⟨hg0, hg1, hb0, hsz⟩ := top2 w (.cells #[.int .i64 N, .slice a l.length cap] 24) (.cells #[.int .i64 0, .slice none 0 0] 24)
  obtain ⟨⟨a0, a1⟩, _⟩ := two_cells hg0
  have HCP := Lib.hid (rcopy_any N a l cap _ (by omega) hna (hr.on hb0))
  obtain ⟨iy, oy, hiy⟩ := hi.get
  obtain ⟨iz, oz, hiz⟩ := hW.get
  rw [ints_len, hm] at hiy
  rw [hw] at hiz
  have HIY := Lib.hid hiy
  have HIZ := Lib.hid hiz
  have HB0 := Lib.hid hb0
  have HG1 := Lib.hid hg1
  have HM := Lib.hid hm
  have HID := Lib.hid hid
  have HST : Hid (∀ k, k < m → (rwK l ids ws k).set (ids.getD k 0) ⟨((rwK l ids ws k).getD (ids.getD k 0) A.zero).f, ((rwK l ids ws k).getD (ids.getD k 0) A.zero).t, ws.getD k 0⟩ = rwK l ids ws (k + 1)) := fun k hk => rwK_set hnd (by rw [hm]; exact hk) (hid k hk)
  have HFN : Hid (rwK l ids ws m = rwL l ids ws) := by show _ = _; rw [← hm, rwK_all]
  clear hr hi hW hiy hiz hb0 hg0 hg1 hm hw hid hna hnd
  generalize hp : w.heap.size = p at *
  go_enter Tryz.func37, Tryz.ntmps37
  go_wp2_with fail
  generalize hWW : (w.alloc (.cells #[.int .i64 N, .slice a l.length cap] 24)).alloc (.cells #[.int .i64 0, .slice none 0 0] 24) = W at *
  clear hWW
  refine HCP.out.mono ?_
  rintro e w1 ⟨g, c, rfl, hown, hb1⟩
  have hz1 := hb1.size
  have hgl := hown.lt g rfl
  have HBM : Hid (Below W.heap.size W (w1.alloc (.cells #[.int .i64 N, .slice (some ⟨g, 0, none⟩) l.length c] 24))) := hb1.alloc (by omega) _
  have HQ1 := Lib.hid (heap_top w1 (.cells #[.int .i64 N, .slice (some ⟨g, 0, none⟩) l.length c] 24))
  have HO1 : Hid ((w1.alloc (.cells #[.int .i64 N, .slice (some ⟨g, 0, none⟩) l.length c] 24)).ownsRow W.heap.size 68 3 (.slice (some ⟨g, 0, none⟩) l.length c) l.length (cellsA (rwK l ids ws 0))) := by rw [rwK_zero]; exact hown.alloc _
  have hgq : g ≠ w1.heap.size := by omega
  clear hown hb1 HCP a0 a1
  go_wp2_with fail
  generalize w1.alloc (.cells #[.int .i64 N, .slice (some ⟨g, 0, none⟩) l.length c] 24) = w2 at *
  generalize hq : w1.heap.size = q at *
  clear hq
  go_loopw [8] (fun i wr => ∃ (k : Nat), k ≤ m ∧ i = .int .i64 k ∧ Hid (wr.ownsRow W.heap.size 68 3 (.slice (some ⟨g, 0, none⟩) l.length c) l.length (cellsA (rwK l ids ws k))) ∧ Hid (wr.heap[q]? = some (.cells #[.int .i64 N, .slice (some ⟨g, 0, none⟩) l.length c] 24)) ∧ Hid (Below W.heap.size W wr)) (fun i _ => m - (intOf i).toNat)
  case atStart => exact ⟨0, Nat.zero_le _, rfl, HO1, HQ1, HBM⟩
  case round =>
    clear HO1 HQ1 HBM
    obtain ⟨k, hk, rfl, HOW, HQR, HBR⟩ := hrel
    have hbw : Below p w wr := HB0.out.trans (HBR.out.mono (by omega))
    obtain ⟨⟨k0, k1⟩, _⟩ := two_cells HQR.out
    by_cases hlk : k < m
    · have hlk' : (k : Int) < m := by omega
      have hk0 : (0 : Int) ≤ k := by omega
      obtain ⟨rfl, hyl, hyat⟩ := HIY.out (by omega)
      obtain ⟨rfl, hzl, hzat⟩ := HIZ.out (by omega)
      have s0 := (hbw.cell (p := ⟨iy, oy + k, none⟩) (hp ▸ hyl)).trans (hyat k hlk)
      rw [ints_getD (by rw [HM.out]; exact hlk)] at s0
      have t0 := (hbw.cell (p := ⟨iz, oz + k, none⟩) (hp ▸ hzl)).trans (hzat k hlk)
      have hil := HID.out k hlk
      have HSK := Lib.hid (HST.out k hlk)
      have HRL := Lib.hid (rwK_len l ids ws k)
      obtain ⟨i, HII⟩ := named (ids.getD k 0)
      obtain ⟨wv, HWV⟩ := named (ws.getD k 0)
      rw [HII.out] at s0 hil HSK
      rw [HWV.out] at t0 HSK
      have r2 := World.ownsRow.cellAt HOW.out (i * 3 + 2) (by omega)
      rw [(cellsA_at (rwK l ids ws k) i (by rw [HRL.out]; exact hil)).2.2] at r2
      have f2 := World.ownsRow.frozenAt HOW.out (i * 3 + 2)
      have hS := (World.ownsRow.stored HOW.out (i * 3 + 2) (.int .u32 wv)).1
      rw [(cellsA_set (rwK l ids ws k) i wv (by rw [HRL.out]; exact hil)).2.2, HSK.out] at hS
      have HON : Hid ((wr.setCell ⟨g, i * 3 + 2, none⟩ (.int .u32 wv)).drew.ownsRow W.heap.size 68 3 (.slice (some ⟨g, 0, none⟩) l.length c) l.length (cellsA (rwK l ids ws (k + 1)))) := hS
      have HBN : Hid (Below W.heap.size W (wr.setCell ⟨g, i * 3 + 2, none⟩ (.int .u32 wv)).drew) := (HBR.out.setCell (p := ⟨g, i * 3 + 2, none⟩) (HOW.out.lt g rfl).1 _).drew
      have HQN : Hid ((wr.setCell ⟨g, i * 3 + 2, none⟩ (.int .u32 wv)).drew.heap[q]? = some (.cells #[.int .i64 N, .slice (some ⟨g, 0, none⟩) l.length c] 24)) := (Below.heap_setCell wr ⟨g, i * 3 + 2, none⟩ _ q (by show q ≠ g; omega)).trans HQR.out
      have hii : (i : Int) < l.length := by omega
      have hi0 : (0 : Int) ≤ i := by omega
      generalize ((rwK l ids ws k).getD i A.zero).w = ow at *
      clear hS hyat hzat hbw HOW HQR HBR
      go_wp2_with fail
      go_region
      generalize (wr.setCell ⟨g, i * 3 + 2, none⟩ (.int .u32 wv)).drew = w7 at *
      go_wp2_with fail
      exact ⟨⟨k + 1, by omega, by simp, HON, HQN, HBN⟩, by simp [intOf]; omega⟩
    · have hlk' : ¬ (k : Int) < m := by omega
      obtain rfl : k = m := by omega
      have hR5 := (HBR.out.block (p + 1) (by omega)).trans HG1.out
      obtain ⟨⟨z0, z1⟩, zf0, zf1⟩ := two_cells hR5
      have hOF := HOW.out
      rw [HFN.out] at hOF
      have HB6 : Hid (Below p w ((wr.setCell ⟨p + 1, 0, none⟩ (.int .i64 N)).setCell ⟨p + 1, 1, none⟩ (.slice (some ⟨g, 0, none⟩) l.length c))) := (hbw.setCell (p := ⟨p + 1, 0, none⟩) (by simp) _).setCell (p := ⟨p + 1, 1, none⟩) (by simp) _
      have HO6 := Lib.hid (own_base (own_set (own_set hOF ⟨p + 1, 0, none⟩ (.int .i64 N) (show p + 1 < _ by omega)) ⟨p + 1, 1, none⟩ (.slice (some ⟨g, 0, none⟩) l.length c) (show p + 1 < _ by omega)) (show p ≤ W.heap.size by omega))
      have h63 : ((wr.setCell ⟨p + 1, 0, none⟩ (.int .i64 N)).setCell ⟨p + 1, 1, none⟩ (.slice (some ⟨g, 0, none⟩) l.length c)).heap[p + 1]? = some (.cells #[.int .i64 N, (.slice (some ⟨g, 0, none⟩) l.length c)] 24) := (heap_setCell_same _ (p + 1) 1 _ _ (.slice (some ⟨g, 0, none⟩) l.length c) (heap_setCell_same wr (p + 1) 0 _ _ (.int .i64 N) hR5)).trans (by simp)
      have HR6 := Lib.hid (two_cells h63).1
      clear hR5 hbw hOF h63
      go_wp2_with fail
      obtain ⟨r0, r1⟩ := HR6.out
      refine bodyPost_ret (v := .agg #[.int .i64 N, (.slice (some ⟨g, 0, none⟩) l.length c)]) (by simp [results, Tryz.results37, go_sem, r0, r1]) rfl ?_
      exact ⟨g, c, rfl, HO6.out, HB6.out⟩
end Go.Proofs.YtpmjbeiclmllmaaGreat
