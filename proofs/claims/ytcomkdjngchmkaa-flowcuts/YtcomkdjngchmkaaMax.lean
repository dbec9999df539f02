/-
  The contract of flow.Max.
-/
import Derived.Test.YtcomkdjngchmkaaLay1
import Derived.Test.YtcomkdjngchmkaaChk2
import Derived.Test.YtcomkdjngchmkaaEndM
namespace Go.Proofs.Ytcomkdjngchmkaa
open Go.RowKit
theorem info50 : (Try.prog.info? 50).map (fun i => (i.zero, i.size, i.bytes)) = some (some (.int .u32 0), 1, 4) := by kernel_rfl
theorem made_u32 (n : Nat) : madeCells (Value.int .u32 0).cells (n * 1) = ((List.range n).map (fun _ => Value.int .u32 0)).toArray := by
  apply Array.ext'
  show (madeCells #[Value.int .u32 0] (n * 1)).toList = _
  rw [toList_madeCells_one, Nat.mul_one]
  apply List.ext_getElem
  · simp
  · intro i h1 h2
    simp
theorem net_zero (E : List Ed) (v : Nat) : ∀ k, net E (fun _ => 0) v k = 0
  | 0 => rfl
  | k + 1 => by simp [net, net_zero E v k]
theorem Flow.zero {n : Nat} {E : List Ed} (g : RN n E) (s t : Nat) : Flow n E s t (fun _ => 0) :=
  ⟨fun _ _ => Int.le_refl _, fun j hj => (g.cap j hj).1, fun v _ _ _ => net_zero E v _⟩
theorem RN.steps {n : Nat} {E : List Ed} (g : RN n E) : ∀ k, k < 2 * E.length → frm E k < n ∧ tto E k < n := fun k hk => by
  have h := g.ends (k / 2) (by omega)
  unfold frm tto
  split
  · exact h
  · exact ⟨h.2, h.1⟩
/-- What is right of a network and two nodes that are not refused. -/
structure Ok (N : Int) (l : List A) (s t : Int) (n u v : Nat) : Prop where
  hn : N = n
  hs : s = u
  ht : t = v
  g : RN n (edl l)
  po : ∀ x, x ∈ l → 0 ≤ x.f ∧ 0 ≤ x.t
  un : u < n
  vn : v < n
  uv : u ≠ v
theorem flE_ok {N : Int} {l : List A} {s t : Int} (h : flE N l s t = 0) (hw : ∀ x, x ∈ l → 0 ≤ x.w ∧ x.w < 4294967296) : ∃ n u v, Ok N l s t n u v := by
  unfold flE at h
  by_cases h1 : chkE N l = 0
  · rw [if_pos h1] at h
    by_cases h2 : okV N s = true
    · rw [if_pos h2] at h
      by_cases h3 : okV N t = true
      · rw [if_pos h3] at h
        by_cases h4 : s = t
        · rw [if_pos h4] at h; cases h
        · obtain ⟨c1, c2, c3, c4⟩ := chk_zero h1
          have h2 := okV_t h2
          have h3 := okV_t h3
          refine ⟨N.toNat, s.toNat, t.toNat, by omega, by omega, by omega, ⟨by omega, by omega, by rw [edl_len]; omega, fun j hj => ?_, fun j hj => ?_⟩, fun x hx => ⟨(c4 x hx).1.1, (c4 x hx).2.1⟩, by omega, by omega, by omega⟩
          · rw [edl_len] at hj
            rw [edl_at hj]
            have := c4 (l.getD j A.zero) (by simp [List.getD, List.getElem?_eq_getElem hj])
            simp only
            omega
          · rw [edl_len] at hj
            rw [edl_at hj]
            exact hw (l.getD j A.zero) (by simp [List.getD, List.getElem?_eq_getElem hj])
      · rw [if_neg h3] at h; cases h
    · rw [if_neg h2] at h; cases h
  · rw [if_neg h1] at h; exact absurd h h1
theorem lv6 (E : List Ed) (fl nx : Nat → Int) (k : Nat) : lv E fl nx (k * 6 + 0) = .int .i64 (ed E k).f ∧ lv E fl nx (k * 6 + 1) = .int .i64 (ed E k).t ∧ lv E fl nx (k * 6 + 2) = .int .u32 ((ed E k).c - fl k) ∧ lv E fl nx (k * 6 + 3) = .int .u32 (fl k) ∧ lv E fl nx (k * 6 + 4) = .int .i64 (nx (2 * k)) ∧ lv E fl nx (k * 6 + 5) = .int .i64 (nx (2 * k + 1)) := by
  have h : ∀ j, j < 6 → (k * 6 + j) % 6 = j ∧ (k * 6 + j) / 6 = k := fun j hj => by omega
  unfold lv
  rw [(h 0 (by decide)).1, (h 0 (by decide)).2, (h 1 (by decide)).1, (h 1 (by decide)).2, (h 2 (by decide)).1, (h 2 (by decide)).2, (h 3 (by decide)).1, (h 3 (by decide)).2, (h 4 (by decide)).1, (h 4 (by decide)).2, (h 5 (by decide)).1, (h 5 (by decide)).2]
  simp
/-- The six cells of a line. -/
theorem line_cells {w : World} {bl m : Nat} {E : List Ed} {fl nx : Nat → Int} (h : TbV w bl (m * 6) 67 (lv E fl nx)) {k : Nat} (hk : k < m) : ∃ y0 y1 y2 y4 y5, w.cell? ⟨bl, k * 6, none⟩ = some (.int .i64 y0) ∧ w.cell? ⟨bl, k * 6 + 1, none⟩ = some (.int .i64 y1) ∧ w.cell? ⟨bl, k * 6 + 2, none⟩ = some (.int .u32 y2) ∧ w.cell? ⟨bl, k * 6 + 3, none⟩ = some (.int .u32 (fl k)) ∧ w.cell? ⟨bl, k * 6 + 4, none⟩ = some (.int .i64 y4) ∧ w.cell? ⟨bl, k * 6 + 5, none⟩ = some (.int .i64 y5) := by
  obtain ⟨l0, l1, l2, l3, l4, l5⟩ := lv6 E fl nx k
  have c := fun j (hj : j < 6) => h.cell (v := k * 6 + j) (lay_in hk hj)
  exact ⟨_, _, _, _, _, (c 0 (by decide)).trans (congrArg some l0), (c 1 (by decide)).trans (congrArg some l1), (c 2 (by decide)).trans (congrArg some l2), (c 3 (by decide)).trans (congrArg some l3), (c 4 (by decide)).trans (congrArg some l4), (c 5 (by decide)).trans (congrArg some l5)⟩
theorem tab_step {fl : Nat → Int} {k : Nat} (j : Nat) : updV (fun j => if j < k then Value.int .u32 (fl j) else .int .u32 0) k (.int .u32 (fl k)) j = if j < k + 1 then .int .u32 (fl j) else .int .u32 0 := by
  by_cases e : j = k
  · subst e; rw [updV_self, if_pos (Nat.lt_succ_self _)]
  · rw [updV_ne _ _ e]
    show (if j < k then Value.int .u32 (fl j) else .int .u32 0) = _
    by_cases h : j < k
    · rw [if_pos h, if_pos (by omega)]
    · rw [if_neg h, if_neg (by omega)]
theorem Fr.below {D : Nat → Prop} {w w' : World} (h : Fr D w w') {B : Nat} (hB : B ≤ w.heap.size) (hd : ∀ k, D k → B ≤ k) : Below B w w' :=
  ⟨h.os, h.tape, h.output, h.size, fun k hk => h.block k (Nat.lt_of_lt_of_le hk hB) (fun e => absurd (hd k e) (Nat.not_le.2 hk))⟩
set_option maxHeartbeats 800000 in
set_option maxRecDepth 100000 in
theorem max_bad (N : Int) (a : Option Addr) (l : List A) (cap : Nat) (w : World) (s t : Int) (hl : l.length ≤ 9223372036854775807) (hr : Arcs w a l) (hE : flE N l s t ≠ 0) :
    Calls Try.prog 21 #[.agg #[.int .i64 N, .slice a l.length cap], .int .i64 s, .int .i64 t] w fun e w' => e = .returned (.tuple #[.int .u64 0, .slice none 0 0, .int .i64 (flE N l s t)]) ∧ Below w.heap.size w w' := by
  have hb0 : Below w.heap.size w (w.alloc (.cells #[.int .i64 N, .slice a l.length cap] 24)) := (Below.refl _ _).alloc (Nat.le_refl _) _
  have HC := Lib.hid (fcheck_any N a l cap _ hl (hr.on hb0) s t)
  generalize flE N l s t = E at *
  have hE1 : (E == 0) = false := by rw [beq_eq_false_iff_ne]; exact hE
  have hE2 : (E != 0) = true := by simpa using hE
  clear hE
  go_enter Try.func21, Try.ntmps21
  go_wp2_with fail
  refine HC.out.mono ?_
  rintro e w1 ⟨rfl, hb1⟩
  go_wp2_with fail
  go_ret3
  exact ⟨rfl, bthen hb0 hb1 (by simp)⟩
set_option maxHeartbeats 3200000 in
set_option maxRecDepth 100000 in
theorem max_ok (n : Nat) (a : Option Addr) (l : List A) (cap : Nat) (w : World) (s t : Nat) (hr : Arcs w a l) (hE : flE n l s t = 0) (hO : Ok n l s t n s t) :
    Calls Try.prog 21 #[.agg #[.int .i64 n, .slice a l.length cap], .int .i64 s, .int .i64 t] w fun e w' => ∃ (fl rk : Nat → Int) (bf : Nat), e = .returned (.tuple #[.int .u64 (net (edl l) fl s (edl l).length), .slice (some ⟨bf, 0, none⟩) l.length l.length, .int .i64 0]) ∧ Flow n (edl l) s t fl ∧ Rk n l.length (edl l) fl 1 s t rk ∧ rk t = -1 ∧ TbV w' bf l.length 50 (fun j => .int .u32 (fl j)) ∧ w.heap.size ≤ bf ∧ Below w.heap.size w w' := by
  obtain ⟨i50, hi50, hz50, hs50, hby50⟩ := info_parts info50
  have hm : l.length ≤ 16384 := by have := hO.g.lb; rwa [edl_len] at this
  have hb0 : Below w.heap.size w (w.alloc (.cells #[.int .i64 n, .slice a l.length cap] 24)) := (Below.refl _ _).alloc (Nat.le_refl _) _
  have HC := Lib.hid (fcheck_any n a l cap _ (by omega) (hr.on hb0) s t)
  rw [hE] at HC
  have hg := heap_top w (.cells #[.int .i64 n, .slice a l.length cap] 24)
  have hmk : ∀ w, (Instr.makeSlice 42 (.int .i64 l.length) (.int .i64 l.length)).run Try.prog w = .ok (.slice (some ⟨w.heap.size, 0, none⟩) l.length l.length) (w.alloc (.cells ((List.range l.length).map (fun _ => Value.int .u32 0)).toArray 50)) := fun w => by
    have := run_make (P := Try.prog) w 42 50 i50 (.int .u32 0) Try.underlying42 hi50 hz50 .i64 .i64 l.length l.length (by omega) (by omega) (by rw [hby50]; omega) (by omega)
    rw [this, Int.toNat_natCast, hs50, made_u32]
  have HO := Lib.hid hO
  have HAR := Lib.hid (hr.on hb0)
  have hsz : (w.alloc (.cells #[.int .i64 n, .slice a l.length cap] 24)).heap.size = w.heap.size + 1 := by simp
  have HB0 := Lib.hid hb0
  have HG := Lib.hid hg
  clear hE hO hr hi50 hz50 hs50 hby50 hb0 hg
  clear i50
  go_enter Try.func21, Try.ntmps21
  go_wp2_with fail
  refine HC.out.mono ?_
  rintro e w1 ⟨rfl, hb1⟩
  generalize hW : w.alloc (.cells #[.int .i64 n, .slice a l.length cap] 24) = W at *
  have hg1 := (hb1.block w.heap.size (by omega)).trans HG.out
  obtain ⟨⟨g0, g1⟩, gf0, gf1⟩ := two_cells hg1
  have HL := Lib.hid (lay_any n a l cap w1 HO.out.g HO.out.po (HAR.out.on hb1))
  have HB1 := Lib.hid hb1
  clear hb1
  go_wp2_with fail
  refine HL.out.mono ?_
  rintro e w2 ⟨f, bl, b1, b2, b3, bq, bp, rfl, hAp, hSt, hb2, hlo⟩
  have HF := Lib.hid (fill_any (s := s) (t := t) hAp hSt HO.out.g (edl_len l) (by have := HO.out.g.steps; rwa [edl_len] at this) HO.out.un HO.out.vn HO.out.uv (Flow.zero HO.out.g s t) (net_zero _ _ _))
  have HB2 := Lib.hid hb2
  have HLO := Lib.hid hlo
  have HAP := Lib.hid hAp
  have hg2 := (hb2.block w.heap.size (lt_of_block hg1)).trans hg1
  clear hb2 hlo hAp hSt g0 g1 gf0 gf1
  go_wp2_with fail
  refine HF.out.mono ?_
  rintro e w3 ⟨fl, rk, rfl, hFl, hRk, hrt, htb, hSt⟩
  have hw1 := lt_of_block hg1
  have hb3 : Below w1.heap.size w2 w3 := hSt.fr.below HB2.out.size (fun k hk => by
    have := HLO.out
    rcases hk with h | h | h | h | h | h <;> (rw [h]; omega))
  have hg3 := (hb3.block w.heap.size hw1).trans hg2
  obtain ⟨⟨g0, g1⟩, gf0, gf1⟩ := two_cells hg3
  have hbw3 : Below w.heap.size w w3 := ((HB0.out.trans (HB1.out.mono (by omega))).trans (HB2.out.mono (by omega))).trans (hb3.mono (by omega))
  obtain ⟨c0, c1, c2, c3, c4, c5, c6⟩ := seven_cells hSt.nt.pp.hd
  have hsz3 := lt_of_block hg3
  have hf3 := lt_of_block hSt.nt.pp.hd
  have hfn : f ≠ w3.heap.size := Nat.ne_of_lt hf3
  have HS3 := Lib.hid hSt
  have HFL := Lib.hid hFl
  have HRK := Lib.hid hRk
  have HRT := Lib.hid hrt
  have HBW := Lib.hid hbw3
  obtain ⟨V, HV⟩ := named (net (edl l) fl s (edl l).length)
  rw [HV.out]
  clear hSt hFl hRk hrt htb hb3 hbw3 hg1 hg2
  go_wp2_with fail
  have HT0 := Lib.hid (heap_top w3 (.cells ((List.range l.length).map (fun _ => Value.int .u32 0)).toArray 50))
  have hb4 : Below w3.heap.size w3 (w3.alloc (.cells ((List.range l.length).map (fun _ => Value.int .u32 0)).toArray 50)) := (Below.refl _ _).alloc (Nat.le_refl _) _
  have HLN : Hid (TbV (w3.alloc (.cells ((List.range l.length).map (fun _ => Value.int .u32 0)).toArray 50)) bl (l.length * 6) 67 (lv (edl l) fl (fun k => lst (edl l) (frm (edl l) k) k))) := HS3.out.nt.ln.same (hb4.block bl HS3.out.nt.ln.lt)
  have hbln : bl ≠ w3.heap.size := Nat.ne_of_lt HS3.out.nt.ln.lt
  have HBW4 : Hid (Below w.heap.size w (w3.alloc (.cells ((List.range l.length).map (fun _ => Value.int .u32 0)).toArray 50))) := HBW.out.trans (hb4.mono (by omega))
  have HSZ4 : Hid (w.heap.size ≤ w3.heap.size) := by show _ ≤ _; omega
  clear hb4 c0 c1 c2 c3 c4 c5 c6 g0 g1 gf0 gf1 hg3 hsz3 hf3 hfn hmk hw1 hW hsz HC HL HF HB1 HB2 HB0 HG HAR
  generalize hbf : w3.heap.size = bf at *
  generalize w3.alloc (.cells ((List.range l.length).map (fun _ => Value.int .u32 0)).toArray 50) = W4 at *
  generalize hml : l.length = m at *
  go_loopw [35] (fun i wr => ∃ k : Nat, k ≤ m ∧ i = .int .i64 k ∧ Hid (TbV wr bf m 50 (fun j => if j < k then .int .u32 (fl j) else .int .u32 0)) ∧ Hid (Fr (fun j => j = bf) W4 wr)) (fun i _ => m - (intOf i).toNat)
  case atStart => exact ⟨0, Nat.zero_le _, rfl, TbV.congr HT0.out (fun v _ => by simp), Fr.refl _ _⟩
  case round =>
    obtain ⟨k, hk, rfl, HT, HFR⟩ := hrel
    by_cases hlt : k < m
    · obtain ⟨y0, y1, y2, y4, y5, e0, e1, e2, e3, e4, e5⟩ := line_cells (HLN.out.fr HFR.out hbln) hlt
      have HTA : TbV (wr.alloc (.cells #[.int .i64 y0, .int .i64 y1, .int .u32 y2, .int .u32 (fl k), .int .i64 y4, .int .i64 y5] 67)) bf m 50 (fun j => if j < k then .int .u32 (fl j) else .int .u32 0) := HT.out.same (Below.heap_alloc _ _ _ HT.out.lt)
      have d := HTA.cell hlt
      have df := HTA.free k
      clear HTA
      have hkm : (k : Int) < m := by omega
      have HNX : Hid (TbV ((wr.alloc (.cells #[.int .i64 y0, .int .i64 y1, .int .u32 y2, .int .u32 (fl k), .int .i64 y4, .int .i64 y5] 67)).setCell ⟨bf, k, none⟩ (.int .u32 (fl k))) bf m 50 (fun j => if j < k + 1 then .int .u32 (fl j) else .int .u32 0)) := (TbV.set (HT.out.same (Below.heap_alloc _ _ _ HT.out.lt)) k (.int .u32 (fl k))).congr (fun j _ => tab_step j)
      have HFX : Hid (Fr (fun j => j = bf) W4 ((wr.alloc (.cells #[.int .i64 y0, .int .i64 y1, .int .u32 y2, .int .u32 (fl k), .int .i64 y4, .int .i64 y5] 67)).setCell ⟨bf, k, none⟩ (.int .u32 (fl k)))) := (HFR.out.alloc _).setCell ⟨bf, k, none⟩ _ rfl
      generalize fl k = flk at *
      rw [if_neg (Nat.lt_irrefl k)] at d
      go_wp2_with fail
      exact ⟨⟨k + 1, hlt, by go_num, HNX, HFX⟩, by simp [intOf]; omega⟩
    · obtain rfl : k = m := by omega
      go_wp2_with fail
      go_ret3
      subst hml
      exact ⟨fl, rk, bf, by rw [HV.out]; rfl, HFL.out, HRK.out, HRT.out, HT.out.congr (fun j hj => if_pos hj), HSZ4.out, HBW4.out.trans (HFR.out.below HBW4.out.size (fun k h => by rw [h]; exact HSZ4.out))⟩
end Go.Proofs.Ytcomkdjngchmkaa
