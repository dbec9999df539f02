/-
  LocalStays holds.
-/
import Derived.Test.YtgpaoiddjlpcmaaZAQ
import Derived.Test.YtgpaoiddjlpcmaaZAR
namespace Go.Proofs.Ytgpaoiddjlpcmaa
open Go.RowKit Go.Maps
theorem below_tr {p : Nat} {w w1 w2 : World} (h : Below p w w1) (hp : w.heap.size = p) (h2 : Below w1.heap.size w1 w2) : Below p w w2 := h.trans (h2.mono (hp ▸ h.size))
def zr (n : Nat) : List Nat := List.replicate n 0
theorem zr_getD (n v : Nat) : (zr n).getD v 0 = 0 := by
  unfold zr List.getD
  by_cases h : v < n
  · simp [h]
  · simp [h]
theorem zr_len (n : Nat) : (zr n).length = n := by simp [zr]
theorem zr_tdy1 : ∀ (m : Nat), tdy (ints (zr m)) 1 = true
  | 0 => rfl
  | m + 1 => by
    have ih := zr_tdy1 m
    unfold zr ints at ih ⊢
    rw [List.replicate_succ, List.map_cons]
    unfold tdy
    rw [if_neg (by omega), if_neg (by omega)]
    exact ih
theorem zr_tdy {n : Nat} : tdy (ints (zr n)) 0 = true := by
  cases n with
  | zero => rfl
  | succ m =>
    have h := zr_tdy1 m
    unfold zr ints at h ⊢
    rw [List.replicate_succ, List.map_cons]
    unfold tdy
    rw [if_neg (by omega), show (if ((0 : Nat) : Int) = 0 then (0 : Int) + 1 else 0) = 1 from by simp]
    exact h
theorem zr_sz {n : Nat} (h : 0 < n) : szL (ints (zr n)) = [n] := by
  have h1 := zr_tdy (n := n)
  have hl : (szL (ints (zr n))).length = 1 := by
    have h2 : ∀ m, (szL (ints (zr (m + 1)))).length = 1 := fun m => by
      induction m with
      | zero => rfl
      | succ m ih =>
        have e : ints (zr (m + 2)) = ints (zr (m + 1)) ++ [((0 : Nat) : Int)] := by
          rw [← ints_snoc]
          congr 1
          unfold zr
          rw [← List.replicate_succ']
        rw [e, szL_snoc]
        unfold szS
        rw [if_neg (by rw [ih]; decide), List.length_set]
        exact ih
    obtain ⟨m, rfl⟩ : ∃ m, n = m + 1 := ⟨n - 1, by omega⟩
    exact h2 m
  have hc := sz_cnt h1 0
  have hcn : (zr n).count 0 = n := by simp [zr]
  rw [hcn] at hc
  match hS : szL (ints (zr n)), hl, hc with
  | [x], _, hc => simp [List.getD] at hc; rw [hc]
theorem zr_cntB {n : Nat} (P : List Pr) : cntB (ints (zr n)) P = 0 := by
  unfold cntB
  rw [List.length_eq_zero_iff, List.filter_eq_nil_iff]
  intro p _
  rw [getD_ints, getD_ints, zr_getD, zr_getD]
  decide
theorem zr_ga {n : Nat} (P : List Pr) (v : Nat) : gaV P (zr n) v 0 = 0 := by
  unfold gaV
  rw [zr_getD]
  omega
theorem zr_open {n : Nat} (P : List Pr) (B v f : Nat) : ¬ Open P (zr n) B v f := fun h => by
  have := h.2.2.2.1
  unfold gn at this
  rw [zr_getD, zr_getD] at this
  omega
theorem zr_ints {w : World} {b n : Nat} (h : w.heap[b]? = some (.cells ((List.range n).map (fun _ => Value.int .i64 0)).toArray 3)) : Ints w (some ⟨b, 0, none⟩) (ints (zr n)) := by
  by_cases h0 : n = 0
  · exact .inl (by rw [h0]; rfl)
  · refine .inr ⟨b, 0, rfl, lt_of_block h, fun j hj => ?_⟩
    rw [getD_ints, zr_getD]
    rw [ints_len, zr_len] at hj
    simp [World.cell?, h, hj]
set_option maxRecDepth 100000 in
set_option maxHeartbeats 1600000 in
theorem stays_any (N : Int) (a : Option Addr) (l : List A) (cap : Nat) (v : Int) (w : World) (hlen : l.length * 24 ≤ 140737488351232) (hr : Arcs w a l) :
    Calls Try.prog 7 #[.agg #[.int .i64 N, .slice a l.length cap], .int .i64 v] w fun e w' => e = .returned (.bool true) ∧ Below w.heap.size w w' := by
  have hl : l.length ≤ 9223372036854775807 := by omega
  have hb0 : Below w.heap.size w (w.alloc (.cells #[.int .i64 N, .slice a l.length cap] 24)) := (Below.refl _ _).alloc (Nat.le_refl _) _
  have hg := heap_top w (.cells #[.int .i64 N, .slice a l.length cap] 24)
  have HAR := Lib.hid hr
  have HB0 := Lib.hid hb0
  obtain ⟨⟨g0, g1⟩, _⟩ := two_cells hg
  clear hb0 hr
  generalize hp : w.heap.size = p at *
  go_enter Try.func7, Try.ntmps7
  generalize hW : w.alloc (.cells #[.int .i64 N, .slice a l.length cap] 24) = W at *
  go_wp2_with fail
  clear hW
  refine (works_any W).mono ?_
  rintro e w1 ⟨rfl, hb1⟩
  have hg1 := (hb1.block _ (lt_of_block hg)).trans hg
  have HB1 := Lib.hid (below_tr HB0.out hp hb1)
  clear hb1 g0 g1 hg
  obtain ⟨⟨g0, g1⟩, _⟩ := two_cells hg1
  by_cases h1 : N < 1
  · go_wp2_with fail
    go_ret
    exact ⟨rfl, HB1.out⟩
  by_cases h2 : 1024 < N
  · go_wp2_with fail
    go_ret
    exact ⟨rfl, HB1.out⟩
  obtain ⟨n, hn⟩ : ∃ n : Nat, N = n := ⟨N.toNat, by omega⟩
  subst hn
  have HLG := Lib.hid (large_any n a l cap w1 hl (HAR.out.on (by rw [hp]; exact HB1.out)))
  obtain ⟨V, HV⟩ := named (lgB n l)
  rw [HV.out] at HLG
  go_wp2_with fail
  refine HLG.out.mono ?_
  rintro e w2 ⟨rfl, hb2⟩
  have hg2 := (hb2.block _ (lt_of_block hg1)).trans hg1
  have HB2 := Lib.hid (below_tr HB1.out hp hb2)
  clear hb2 g0 g1 HLG hg1
  obtain ⟨⟨g0, g1⟩, _⟩ := two_cells hg2
  cases V
  · obtain ⟨i3, hi3, hz3, hs3, hb3⟩ := info_parts info3
    have hmk : ∀ w, (Instr.makeSlice 25 (.int .i64 n) (.int .i64 n)).run Try.prog w = .ok (.slice (some ⟨w.heap.size, 0, none⟩) n n) (w.alloc (.cells ((List.range n).map (fun _ => Value.int .i64 0)).toArray 3)) := fun w => by
      have := run_make (P := Try.prog) w 25 3 i3 (.int .i64 0) Try.underlying25 hi3 hz3 .i64 .i64 n n (by omega) (by omega) (by rw [hb3]; omega) (by omega)
      rw [this, Int.toNat_natCast, hs3, made_int]
    clear hi3 hz3 hs3 hb3
    clear i3
    have hbX : Below w2.heap.size w2 (w2.alloc (.cells ((List.range n).map (fun _ => Value.int .i64 0)).toArray 3)) := (Below.refl _ _).alloc (Nat.le_refl _) _
    have hgX := (hbX.block _ (lt_of_block hg2)).trans hg2
    have HZX := Lib.hid (zr_ints (heap_top w2 (.cells ((List.range n).map (fun _ => Value.int .i64 0)).toArray 3)))
    have HBX := Lib.hid (below_tr HB2.out hp hbX)
    obtain ⟨⟨x0, x1⟩, _⟩ := two_cells hgX
    have HC1 := Lib.hid (natCount_any n a l cap (some ⟨w2.heap.size, 0, none⟩) (ints (zr n)) n (w2.alloc (.cells ((List.range n).map (fun _ => Value.int .i64 0)).toArray 3)) hl (by rw [ints_len, zr_len]; omega) (HAR.out.on (by rw [hp]; exact HBX.out)) HZX.out)
    obtain ⟨E, HE⟩ := named (chkE n l)
    have HCE : Hid (cntE n l (ints (zr n)) = E) := by
      show cntE n l (ints (zr n)) = E
      unfold cntE
      rw [HE.out, ints_len, zr_len, zr_tdy]
      by_cases c : E ≠ 0
      · rw [if_pos c]
      · rw [if_neg c, if_neg (by simp)]; omega
    rw [HCE.out, zr_cntB, ints_len, zr_len] at HC1
    have HC2 : Hid (Calls Try.prog 23 #[.agg #[.int .i64 n, .slice a l.length cap], .slice (some ⟨w2.heap.size, 0, none⟩) n n] (w2.alloc (.cells ((List.range n).map (fun _ => Value.int .i64 0)).toArray 3)) fun e w' => e = .returned (.tuple #[.int .i64 0, .int .i64 E]) ∧ Below (w2.alloc (.cells ((List.range n).map (fun _ => Value.int .i64 0)).toArray 3)).heap.size (w2.alloc (.cells ((List.range n).map (fun _ => Value.int .i64 0)).toArray 3)) w') := by
      refine HC1.out.mono ?_
      rintro e w' ⟨rfl, hb⟩
      refine ⟨?_, hb⟩
      by_cases c : E = 0
      · rw [if_pos c]; rfl
      · rw [if_neg c]
    clear hbX HC1
    go_wp2_with fail
    clear g0 g1
    generalize hX : w2.alloc (.cells ((List.range n).map (fun _ => Value.int .i64 0)).toArray 3) = X at *
    generalize hq : w2.heap.size = q at *
    clear hX hmk
    refine HC2.out.mono ?_
    rintro e w3 ⟨rfl, hb3⟩
    have hg3 := (hb3.block _ (lt_of_block hgX)).trans hgX
    have HB3 := Lib.hid (below_tr HBX.out hp hb3)
    have HZ3 := Lib.hid (HZX.out.on hb3)
    clear hb3 x0 x1 hgX HC2
    obtain ⟨⟨x0, x1⟩, _⟩ := two_cells hg3
    have HG1 := Lib.hid (gain_top n a l cap (some ⟨q, 0, none⟩) (ints (zr n)) n v 0 w3 hl (by rw [ints_len, zr_len]; omega) (HAR.out.on (by rw [hp]; exact HB3.out)) HZ3.out)
    obtain ⟨F, HF⟩ := named (gaE n l (ints (zr n)) v 0)
    rw [HF.out, ints_len, zr_len] at HG1
    go_wp2_with fail
    refine HG1.out.mono ?_
    rintro e w4 ⟨gv, rfl, hb4, HR1, HR2⟩
    have hgv : Hid (gv = 0) := by
      show gv = 0
      by_cases c : F = 0
      · obtain ⟨L, v', x', h1, _, _, _, _, h6, h7⟩ := HR1.out c
        have e1 : L = zr n := ints_inj h1.symm
        have e2 : x' = 0 := by omega
        rw [h7, e1, e2]
        exact zr_ga _ _
      · exact HR2.out c
    have hg4 := (hb4.block _ (lt_of_block hg3)).trans hg3
    have HB4 := Lib.hid (below_tr HB3.out hp hb4)
    have HZ4 := Lib.hid (HZ3.out.on hb4)
    have HF2 : Hid (F = if E ≠ 0 then E else if 0 ≤ v ∧ v < n then 0 else 5) := by
      show F = _
      rw [← HF.out]
      unfold gaE
      rw [HCE.out]
      by_cases c : E ≠ 0
      · rw [if_pos c, if_pos c]
      · rw [if_neg c, if_neg c, zr_sz (by omega)]
        by_cases c2 : 0 ≤ v ∧ v < n
        · rw [if_neg (by simp; omega), if_pos c2]
        · rw [if_pos (by simp; omega), if_neg c2]
    clear hb4 x0 x1 hg3 HG1 HR1 HR2
    obtain ⟨⟨x0, x1⟩, _⟩ := two_cells hg4
    have hgv2 := hgv.out
    subst hgv2
    have HN1 := Lib.hid (next_top n a l cap (some ⟨q, 0, none⟩) (ints (zr n)) n 1024 w4 hl (by rw [ints_len, zr_len]; omega) (HAR.out.on (by rw [hp]; exact HB4.out)) HZ4.out)
    have HLU : Hid (luE n l (ints (zr n)) 1024 = E) := by
      show luE n l (ints (zr n)) 1024 = E
      unfold luE
      rw [HCE.out]
      by_cases c : E ≠ 0
      · rw [if_pos c]
      · rw [if_neg c, if_neg (show ¬ ((1024 : Int) < 1 ∨ (1024 : Int) < 1024) by omega), zr_sz (by omega), if_neg (by simp [mxL, List.getD]; omega)]
        omega
    rw [HLU.out, ints_len, zr_len] at HN1
    go_wp2_with fail
    refine HN1.out.mono ?_
    rintro e w5 ⟨nv, nx, so, rfl, hb5, HM1, HM2⟩
    have hso : Hid (E = 0 → so = false) := fun c => by
      obtain ⟨L, B, h1, _, _, _, _, h6⟩ := HM1.out c
      have e1 : L = zr n := ints_inj h1.symm
      rcases h6 with ⟨_, f, h7, _⟩ | ⟨h7, _⟩
      · rw [e1] at h7
        exact absurd h7.1 (zr_open _ _ _ _)
      · exact h7
    have hg5 := (hb5.block _ (lt_of_block hg4)).trans hg4
    have HB5 := Lib.hid (below_tr HB4.out hp hb5)
    clear hb5 x0 x1 hg4 HN1 HM1 HM2
    obtain ⟨⟨x0, x1⟩, _⟩ := two_cells hg5
    by_cases hE : E ≠ 0
    · have e1 : (E != 0) = true := by simpa using hE
      have e2 : F = E := by rw [HF2.out, if_pos hE]
      subst e2
      have e3 : (F == F) = true := by simp
      go_wp2_with fail
      go_ret
      exact ⟨rfl, HB5.out⟩
    · have hE0 : E = 0 := by simpa using hE
      subst hE0
      have hs := hso.out rfl
      subst hs
      by_cases c : 0 ≤ v
      · by_cases c2 : v < n
        · have d2 : decide (v < (n : Int)) = true := decide_eq_true c2
          have e2 : F = 0 := by rw [HF2.out, if_neg (by simp), if_pos ⟨c, c2⟩]
          subst e2
          go_wp2_with fail
          go_ret
          exact ⟨rfl, HB5.out⟩
        · have d2 : decide (v < (n : Int)) = false := decide_eq_false c2
          have e2 : F = 5 := by rw [HF2.out, if_neg (by simp), if_neg (by omega)]
          subst e2
          go_wp2_with fail
          go_ret
          exact ⟨rfl, HB5.out⟩
      · have e2 : F = 5 := by rw [HF2.out, if_neg (by simp), if_neg (by omega)]
        subst e2
        go_wp2_with fail
        go_ret
        exact ⟨rfl, HB5.out⟩
  · go_wp2_with fail
    go_ret
    exact ⟨rfl, HB2.out⟩
end Go.Proofs.Ytgpaoiddjlpcmaa
