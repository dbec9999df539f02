/-
  near.Length of no arcs; Weights; SameWeights.
-/
import Derived.Test.YtpmjbeiclmllmaaXCqb
import Derived.Test.YtpmjbeiclmllmaaXCec
namespace Go.Proofs.Ytpmjbeiclmllmaa
open Go.RowKit
/-- The weights of arcs. -/
def wtL (l : List A) (ids : List Int) : List Int := ids.map (fun i => (l.getD i.toNat A.zero).w)
theorem wtL_len (l : List A) (ids : List Int) : (wtL l ids).length = ids.length := by simp [wtL]
theorem wtL_at {l : List A} {ids : List Int} {k : Nat} (h : k < ids.length) : (wtL l ids).getD k 0 = (l.getD (ids.getD k 0).toNat A.zero).w := by simp [wtL, List.getD, h]
/-- What Weights answers. -/
def wqE (N : Int) (l : List A) (ids : List Int) : Int := if chkE N l ≠ 0 then chkE N l else if 16384 < ids.length then 2 else if ids.all (fun i => decide (0 ≤ i ∧ i < (l.length : Int))) then 0 else 5
def wtV (l : List A) (ids : List Int) (k i : Nat) : Value := if i < k then .int .u32 ((wtL l ids).getD i 0) else .int .u32 0
theorem wtV_step (l : List A) (ids : List Int) (k i : Nat) (x : Int) (hx : (wtL l ids).getD k 0 = x) : updV (wtV l ids k) k (.int .u32 x) i = wtV l ids (k + 1) i := by
  unfold updV wtV
  by_cases h : i = k
  · subst h; rw [if_pos rfl, if_pos (by omega), hx]
  · rw [if_neg h]
    by_cases h2 : i < k
    · rw [if_pos h2, if_pos (by omega)]
    · rw [if_neg h2, if_neg (by omega)]
theorem info54 : (Try.prog.info? 54).map (fun i => (i.zero, i.size, i.bytes)) = some (some (.int .u32 0), 1, 4) := by kernel_rfl
theorem made_w (l : List A) (ids : List Int) (n : Nat) : madeCells (Value.int .u32 0).cells (n * 1) = ((List.range n).map (wtV l ids 0)).toArray := by
  apply Array.ext'
  show (madeCells #[Value.int .u32 0] (n * 1)).toList = _
  rw [toList_madeCells_one, Nat.mul_one]
  apply List.ext_getElem
  · simp
  · intro i h1 h2
    simp [wtV]
theorem wt_wts {w : World} {g : Nat} {l : List A} {ids : List Int} (h : TbV w g ids.length 54 (wtV l ids ids.length)) : Wts w (some ⟨g, 0, none⟩) (wtL l ids) := by
  refine Or.inr ⟨g, 0, rfl, h.lt, fun j hj => ?_⟩
  rw [wtL_len] at hj
  rw [Nat.zero_add, h.cell hj]
  unfold wtV
  rw [if_pos hj]
theorem near00 (N : Int) (l : List A) : N5.nearE N (l.map toN) [0, 0] = chkE N l := by
  unfold N5.nearE
  rw [chkE_N]
  by_cases h : chkE N l = 0
  · have h1 := (chk_zero h).1
    rw [if_pos h, h, if_pos]
    simp [N5.okV]
    omega
  · rw [if_neg h]
set_option maxRecDepth 100000 in
set_option maxHeartbeats 3200000 in
theorem length0_any (N : Int) (a : Option Addr) (l : List A) (cap : Nat) (w : World) (hl : l.length ≤ 9223372036854775807) (hr : Arcs w a l) :
    Calls Try.prog 73 #[.agg #[.int .i64 N, .slice a l.length cap], .int .i64 0, .int .i64 0, .slice none 0 0] w fun e w' => e = .returned (.tuple #[.int .u64 0, .int .i64 (chkE N l)]) ∧ Below w.heap.size w w' := by
  obtain ⟨hg0, hg1, hb0, hsz⟩ := top2 w (.cells #[.int .i64 N, .slice a l.length cap] 24) (.cells #[.int .i64 0, .int .i64 0] 3)
  obtain ⟨⟨a0, a1⟩, _⟩ := two_cells ((top2 w (.cells #[.int .i64 N, .slice a l.length cap] 24) (.cells #[.int .i64 0, .int .i64 0] 3)).1)
  have hx : N5.Ints ((w.alloc (.cells #[.int .i64 N, .slice a l.length cap] 24)).alloc (.cells #[.int .i64 0, .int .i64 0] 3)) (some ⟨w.heap.size + 1, 0, none⟩) [0, 0] := by
    refine Or.inr ⟨w.heap.size + 1, 0, rfl, by rw [hsz]; omega, fun j hj => ?_⟩
    obtain ⟨⟨b0, b1⟩, _⟩ := two_cells hg1
    match j, hj with
    | 0, _ => exact b0
    | 1, _ => exact b1
  have HCK := Lib.hid (N5.ncheck_any N a (l.map toN) cap (some ⟨w.heap.size + 1, 0, none⟩) [0, 0] 2 _ (by rw [List.length_map]; exact hl) (by decide) (arcs_N (hr.on hb0)) hx)
  rw [near00, List.length_map] at HCK
  have HB0 := Lib.hid hb0
  obtain ⟨E, HE⟩ := named (chkE N l)
  rw [HE.out] at HCK
  rw [HE.out]
  have c0 := (two_cells (heap_top w (.cells #[.int .i64 N, .slice a l.length cap] 24))).1.1
  have c1 := (two_cells (heap_top w (.cells #[.int .i64 N, .slice a l.length cap] 24))).1.2
  clear hr hx hg0 hg1 hb0
  generalize hp : w.heap.size = p at *
  have HCK2 : Hid (Calls Try.prog 78 #[.agg #[.int .i64 N, .slice a l.length cap], .slice (some ⟨p + 1, 0, none⟩) 2 2] ((w.alloc (.cells #[.int .i64 N, .slice a l.length cap] 24)).alloc (.cells #[.int .i64 0, .int .i64 0] 3)) fun e w' => e = .returned (.int .i64 E) ∧ Below p w w') := HCK.out.mono (fun e w' h => ⟨h.1, HB0.out.trans (h.2.mono (by omega))⟩)
  clear HCK HB0
  go_enter Try.func73, Try.ntmps73
  go_wp2_with fail
  refine HCK2.out.mono ?_
  rintro e w2 ⟨rfl, hb2⟩
  have HB2 := Lib.hid hb2
  clear hb2 HCK2 a0 a1 c0 c1
  by_cases h : E = 0
  · subst h
    go_wp2_with fail
    go_loop [31] (fun i => i = .int .i64 0) (fun _ => 0)
    case atStart => rfl
    case round =>
      subst hrel
      go_wp2_with fail
      go_loop [13, 14, 48] (fun x y i => x = .int .i64 0 ∧ y = .int .u64 0 ∧ i = .int .i64 0) (fun _ _ _ => 0)
      case atStart => exact ⟨rfl, rfl, rfl⟩
      case round =>
        obtain ⟨rfl, rfl, rfl⟩ := hrel
        go_wp2_with fail
        go_ret2
        exact ⟨rfl, HB2.out⟩
  · have e1 : (E != 0) = true := by simpa using h
    go_wp2_with fail
    go_ret2
    exact ⟨rfl, HB2.out⟩
set_option maxRecDepth 100000 in
set_option maxHeartbeats 3200000 in
theorem weights_any (N : Int) (a : Option Addr) (l : List A) (cap : Nat) (d : Option Addr) (ids : List Int) (dc : Nat) (w : World) (hl : l.length ≤ 9223372036854775807) (hdl : ids.length ≤ 9223372036854775807) (hr : Arcs w a l) (hj : Ints w d ids) :
    Calls Try.prog 36 #[.agg #[.int .i64 N, .slice a l.length cap], .slice d ids.length dc] w fun e w' => (wqE N l ids = 0 → ∃ g, e = .returned (.tuple #[.slice (some ⟨g, 0, none⟩) ids.length ids.length, .int .i64 0]) ∧ w.heap.size ≤ g ∧ Wts w' (some ⟨g, 0, none⟩) (wtL l ids)) ∧ (wqE N l ids ≠ 0 → e = .returned (.tuple #[.slice none 0 0, .int .i64 (wqE N l ids)])) ∧ Below w.heap.size w w' := by
  have hg := heap_top w (.cells #[.int .i64 N, .slice a l.length cap] 24)
  have hb0 : Below w.heap.size w (w.alloc (.cells #[.int .i64 N, .slice a l.length cap] 24)) := (Below.refl _ _).alloc (Nat.le_refl _) _
  have hsz : (w.alloc (.cells #[.int .i64 N, .slice a l.length cap] 24)).heap.size = w.heap.size + 1 := by simp
  obtain ⟨⟨a0, a1⟩, _⟩ := two_cells hg
  have HLN := Lib.hid (length0_any N a l cap _ hl (hr.on hb0))
  have HB0 := Lib.hid hb0
  have HG0 := Lib.hid hg
  have HRA := Lib.hid hr
  have HJ := Lib.hid hj
  have HST : Hid (wqE N l ids = if chkE N l ≠ 0 then chkE N l else if 16384 < ids.length then 2 else if ids.all (fun i => decide (0 ≤ i ∧ i < (l.length : Int))) then 0 else 5) := rfl
  obtain ⟨E, HE⟩ := named (chkE N l)
  rw [HE.out] at HLN HST
  obtain ⟨S, HSS⟩ := named (wqE N l ids)
  rw [HSS.out] at HST
  rw [HSS.out]
  clear hr hj hb0 hg HSS
  generalize hp : w.heap.size = p at *
  go_enter Try.func36, Try.ntmps36
  go_wp2_with fail
  generalize hW : w.alloc (.cells #[.int .i64 N, .slice a l.length cap] 24) = W at *
  clear hW
  refine HLN.out.mono ?_
  rintro e w1 ⟨rfl, hb1⟩
  have HB1 : Hid (Below p w w1) := HB0.out.trans (hb1.mono (by omega))
  have HG1 : Hid (w1.heap[p]? = some (.cells #[.int .i64 N, .slice a l.length cap] 24)) := (hb1.block p (by omega)).trans HG0.out
  have hw1 : p + 1 ≤ w1.heap.size := by have := hb1.size; omega
  clear a0 a1 hb1 HLN HB0 HG0
  have HBW := HB1
  by_cases hE : E = 0
  · subst hE
    have HST : Hid (S = if 16384 < ids.length then 2 else if ids.all (fun i => decide (0 ≤ i ∧ i < (l.length : Int))) then 0 else 5) := by
      show _ = _
      rw [HST.out, if_neg (by simp)]
    by_cases h16 : 16384 < ids.length
    · have h16' : (16384 : Int) < ids.length := by omega
      obtain rfl : S = 2 := by rw [HST.out, if_pos h16]
      go_wp2_with fail
      go_ret2
      first | exact ⟨rfl, HBW.out⟩ | exact ⟨(fun h => absurd h (by decide)), (fun _ => rfl), HBW.out⟩
    · have h16' : ¬ (16384 : Int) < ids.length := by omega
      have HST : Hid (S = if ids.all (fun i => decide (0 ≤ i ∧ i < (l.length : Int))) then 0 else 5) := by
        show _ = _
        rw [HST.out, if_neg h16]
      have hl8 : l.length ≤ 8192 := (chk_zero HE.out).2.2.1
      obtain ⟨iz, oz, hiz⟩ := HJ.out.get
      have HIZ := Lib.hid hiz
      obtain ⟨ix, ox, hix⟩ := HRA.out.get
      have HIX := Lib.hid hix
      clear hiz hix
      obtain ⟨i54, hi54, hz54, hs54, hby54⟩ := info_parts info54
      obtain ⟨m, HM⟩ := named ids.length
      rw [HM.out] at h16 h16' HIZ
      rw [HM.out]
      have hmk : ∀ w, (Instr.makeSlice 59 (.int .i64 m) (.int .i64 m)).run Try.prog w = .ok (.slice (some ⟨w.heap.size, 0, none⟩) m m) (w.alloc (.cells ((List.range m).map (wtV l ids 0)).toArray 54)) := fun w => by
        have := run_make (P := Try.prog) w 59 54 i54 (.int .u32 0) Try.underlying59 hi54 hz54 .i64 .i64 m m (by omega) (by omega) (by rw [hby54]; omega) (by omega)
        rw [hs54] at this
        rw [this, Int.toNat_natCast, made_w l ids]
      generalize hq : w1.heap.size = q at *
      have HT0 : Hid (TbV (w1.alloc (.cells ((List.range m).map (wtV l ids 0)).toArray 54)) q m 54 (wtV l ids 0)) := by
        have h := heap_top w1 (.cells ((List.range m).map (wtV l ids 0)).toArray 54)
        rw [hq] at h
        exact h
      have HBQ : Hid (Below q w1 (w1.alloc (.cells ((List.range m).map (wtV l ids 0)).toArray 54))) := (Below.refl _ _).alloc (by omega) _
      have HSTV := Lib.hid (wtV_step l ids)
      have HFN : Hid (∀ wr, TbV wr q m 54 (wtV l ids m) → Wts wr (some ⟨q, 0, none⟩) (wtL l ids)) := fun wr h => wt_wts (by rw [HM.out]; exact h)
      go_wp2_with fail
      generalize w1.alloc (.cells ((List.range m).map (wtV l ids 0)).toArray 54) = w2 at *
      clear hmk
      go_loopw [27] (fun i wr => ∃ (k : Nat), k ≤ m ∧ i = .int .i64 k ∧ Hid ((ids.take k).all (fun i => decide (0 ≤ i ∧ i < (l.length : Int))) = true) ∧ Hid (TbV wr q m 54 (wtV l ids k)) ∧ Hid (Below q w1 wr)) (fun i _ => m - (intOf i).toNat)
      case atStart => exact ⟨0, Nat.zero_le _, rfl, by show _ = _; simp, HT0, HBQ⟩
      case round =>
        clear HT0 HBQ
        obtain ⟨k, hk, rfl, HK, HTR, HBR⟩ := hrel
        have HBW : Hid (Below p w wr) := HB1.out.trans (HBR.out.mono (by omega))
        obtain ⟨⟨k0, k1⟩, _⟩ := two_cells ((HBR.out.block p (by omega)).trans HG1.out)
        by_cases hlk : k < m
        · have hlk' : (k : Int) < m := by omega
          have hk0 : (0 : Int) ≤ k := by omega
          have hlk2 : k < ids.length := by rw [HM.out]; exact hlk
          obtain ⟨rfl, hzl, hzat⟩ := HIZ.out (by omega)
          have s0 := (HBW.out.cell (p := ⟨iz, oz + k, none⟩) (hp ▸ hzl)).trans (hzat k hlk)
          have HT := Lib.hid (all_take_I (p := (fun i => decide (0 ≤ i ∧ i < (l.length : Int)))) hlk2 HK.out)
          have HF := Lib.hid (all_not_I (p := (fun i => decide (0 ≤ i ∧ i < (l.length : Int)))) hlk2)
          have HWA := Lib.hid (wtL_at (l := l) hlk2)
          generalize ids.getD k 0 = x at *
          clear hzat hlk2
          by_cases h1 : x < 0
          · obtain rfl : S = 5 := by rw [HST.out, if_neg (by rw [HF.out (decide_eq_false (by omega))]; simp)]
            go_wp2_with fail
            go_ret2
            first | exact ⟨rfl, HBW.out⟩ | exact ⟨(fun h => absurd h (by decide)), (fun _ => rfl), HBW.out⟩
          · by_cases h2 : (l.length : Int) ≤ x
            · obtain rfl : S = 5 := by rw [HST.out, if_neg (by rw [HF.out (decide_eq_false (by omega))]; simp)]
              go_wp2_with fail
              go_ret2
              first | exact ⟨rfl, HBW.out⟩ | exact ⟨(fun h => absurd h (by decide)), (fun _ => rfl), HBW.out⟩
            · have HK2 : Hid ((ids.take (k + 1)).all (fun i => decide (0 ≤ i ∧ i < (l.length : Int))) = true) := HT.out (decide_eq_true (by omega))
              obtain ⟨i, rfl⟩ : ∃ i : Nat, x = i := ⟨x.toNat, by omega⟩
              rw [Int.toNat_natCast] at HWA
              obtain ⟨rfl, hbl, hat⟩ := HIX.out (by omega)
              have x2 := (hat i (by omega)).2.2
              have y2 := (HBW.out.cell (p := ⟨ix, ox + i * 3 + 2, none⟩) (hp ▸ hbl)).trans x2
              obtain ⟨xw, HXW⟩ := named (l.getD i A.zero).w
              rw [HXW.out] at y2 HWA
              have q0 := HTR.out.free k
              have r0 := HTR.out.cell (v := k) (by omega)
              have hi0 : (0 : Int) ≤ i := by omega
              have hi1 : (i : Int) < l.length := by omega
              have HTN : Hid (TbV (wr.setCell ⟨q, k, none⟩ (.int .u32 xw)) q m 54 (wtV l ids (k + 1))) := (HTR.out.set k (.int .u32 xw)).congr (fun c _ => HSTV.out k c xw HWA.out)
              have HBN : Hid (Below q w1 (wr.setCell ⟨q, k, none⟩ (.int .u32 xw))) := HBR.out.setCell (p := ⟨q, k, none⟩) (by simp) _
              clear x2 hat h1 h2
              go_wp2_with fail
              exact ⟨⟨k + 1, by omega, by simp, HK2, HTN, HBN⟩, by simp [intOf]; omega⟩
        · have hlk' : ¬ (k : Int) < m := by omega
          obtain rfl : k = m := by omega
          obtain rfl : S = 0 := by
            have HAL := HK.out
            rw [← HM.out, List.take_length] at HAL
            rw [HST.out, if_pos HAL]
          have HWR := Lib.hid (HFN.out wr HTR.out)
          go_wp2_with fail
          go_ret2
          exact ⟨⟨q, by rw [HM.out]; rfl, by omega, HWR.out⟩, HBW.out⟩
  · have e1 : (E != 0) = true := by simpa using hE
    obtain rfl : S = E := by rw [HST.out, if_pos hE]
    go_wp2_with fail
    go_ret2
    exact ⟨fun h => absurd h hE, fun _ => rfl, HBW.out⟩
set_option maxRecDepth 100000 in
set_option maxHeartbeats 3200000 in
theorem sameW_any (a a' : Option Addr) (cap cap' : Nat) (xs : List Int) (w : World) (hlen : xs.length ≤ 9223372036854775807) (hr : Wts w a xs) (hr' : Wts w a' xs) :
    Calls Try.prog 38 #[.slice a xs.length cap, .slice a' xs.length cap'] w fun e w' => e = .returned (.bool true) ∧ Below w.heap.size w w' := by
  obtain ⟨b, o, hab⟩ := hr.get
  obtain ⟨b', o', hab'⟩ := hr'.get
  go_enter Try.func38, Try.ntmps38
  go_wp2_with fail
  go_loopw [5] (fun i wr => ∃ k n : Nat, k ≤ xs.length ∧ i = .int .i64 k ∧ wr = w.drewN n) (fun i _ => xs.length - (intOf i).toNat)
  case atStart => exact ⟨0, 0, Nat.zero_le _, rfl, rfl⟩
  case round =>
    obtain ⟨k, n, hk, rfl, rfl⟩ := hrel
    by_cases hlt : k < xs.length
    · obtain ⟨rfl, _, hc⟩ := hab (by omega)
      obtain ⟨rfl, _, hc'⟩ := hab' (by omega)
      have c1 := hc k hlt
      have c2 := hc' k hlt
      clear hc hc'
      generalize xs.getD k 0 = x at *
      go_wp2_with fail
      go_quiet (fail)
      go_wp2_with fail
      exact ⟨⟨k + 1, _, by omega, by go_num, rfl⟩, by simp [intOf]; omega⟩
    · go_wp2_with fail
      go_ret
      exact ⟨rfl, below_drewN _ _ _⟩
end Go.Proofs.Ytpmjbeiclmllmaa
