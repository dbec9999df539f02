/-
  SplitParts holds.
-/
import Derived.Test.YtchfccbneedejaaZCE
import Derived.Test.YtchfccbneedejaaZAN
namespace Go.Proofs.Ytchfccbneedejaa
open Go.RowKit
theorem below_tr {p : Nat} {w w1 w2 : World} (h : Below p w w1) (hp : w.heap.size = p) (h2 : Below w1.heap.size w1 w2) : Below p w w2 := h.trans (h2.mono (hp ▸ h.size))
theorem sameN_any (a a' : Option Addr) (cap cap' : Nat) (xs : List Nat) (w : World) (hlen : xs.length ≤ 9223372036854775807) (hr : Ints w a (ints xs)) (hr' : Ints w a' (ints xs)) :
    Calls Try.prog 16 #[.slice a xs.length cap, .slice a' xs.length cap'] w fun e w' => e = .returned (.bool true) ∧ Below w.heap.size w w' := by
  have h := sameInts_any a a' cap cap' (ints xs) w (by rw [ints_len]; exact hlen) hr hr'
  rw [ints_len] at h
  exact h
/-- What Parts answers, in this place's words. -/
theorem gparts_any (N : Int) (a : Option Addr) (l : List A) (cap : Nat) (w : World) (hl : l.length ≤ 9223372036854775807) (hr : Arcs w a l) :
    Calls Try.prog 25 #[.agg #[.int .i64 N, .slice a l.length cap]] w fun e w' => ∃ v c P, e = .returned (.tuple #[.slice v P.length c, .int .i64 (chkE N l)]) ∧ w'.ownsRow w.heap.size 3 1 (.slice v P.length c) P.length (cellsI (ints P)) ∧ P = (if chkE N l = 0 then T3.labs (T3.lead (l.map toT)) N.toNat else []) ∧ Below w.heap.size w w' := by
  have h := T3.parts_any N a (l.map toT) cap w (by rw [List.length_map]; exact hl) (arcs_T hr)
  rw [List.length_map] at h
  refine h.mono ?_
  rintro e w' ⟨v, c, rfl, ho, hb⟩
  rw [chkE_T] at *
  unfold T3.partsL at ho ⊢
  rw [chkE_T] at ho ⊢
  by_cases h0 : chkE N l = 0
  · rw [if_pos h0] at ho ⊢
    refine ⟨v, c, _, ?_, ?_, rfl, hb⟩
    · rw [if_pos h0, T3.ints_len]
    · rw [if_pos h0]
      rw [T3.ints_len] at ho
      exact ho
  · rw [if_neg h0] at ho ⊢
    refine ⟨v, c, _, ?_, ?_, rfl, hb⟩
    · rw [if_neg h0]; rfl
    · rw [if_neg h0]
      exact ho
theorem range_ints {w : World} {b n : Nat} (h : TbV w b n 3 (fun v => .int .i64 ((v : Nat) : Int))) (hn : n ≤ 1024) : Ints w (some ⟨b, 0, none⟩) (ints (List.range n)) := by
  have h1 := tb_own (B := 0) (F := fun v => v) h (Nat.zero_le _) (by omega)
  rw [List.map_id'] at h1
  exact own_ints h1 (by simp)
set_option maxRecDepth 100000 in
set_option maxHeartbeats 3200000 in
theorem parts9_any (N : Int) (a : Option Addr) (l : List A) (cap : Nat) (w : World) (hlen : l.length * 24 ≤ 140737488351232) (hr : Arcs w a l) :
    Calls Try.prog 7 #[.agg #[.int .i64 N, .slice a l.length cap]] w fun e w' => e = .returned (.bool true) ∧ Below w.heap.size w w' := by
  have hl : l.length ≤ 9223372036854775807 := by omega
  have hb0 : Below w.heap.size w (w.alloc (.cells #[.int .i64 N, .slice a l.length cap] 24)) := (Below.refl _ _).alloc (Nat.le_refl _) _
  have hg := heap_top w (.cells #[.int .i64 N, .slice a l.length cap] 24)
  have HAR := Lib.hid hr
  clear hr
  generalize hp : w.heap.size = p at *
  go_enter Try.func7, Try.ntmps7
  go_wp2_with fail
  generalize hW : w.alloc (.cells #[.int .i64 N, .slice a l.length cap] 24) = W at *
  refine (works_any W).mono ?_
  rintro e w1 ⟨rfl, hb1⟩
  have hg1 := (hb1.block _ (lt_of_block hg)).trans hg
  have HB1 := Lib.hid (below_tr hb0 hp hb1)
  obtain ⟨⟨g0, g1⟩, _⟩ := two_cells hg1
  clear hb1 hg hb0 hW
  go_wp2_with fail
  refine (gparts_any N a l cap w1 hl (HAR.out.on (by rw [hp]; exact HB1.out))).mono ?_
  rintro e w2 ⟨v2, c2, P, rfl, hown2, hP, hb2⟩
  have hg2 := (hb2.block _ (lt_of_block hg1)).trans hg1
  have HB2 := Lib.hid (below_tr HB1.out hp hb2)
  have HI2 := Lib.hid (own_ints hown2 rfl)
  clear hb2 g0 g1 hown2
  obtain ⟨⟨g0, g1⟩, _⟩ := two_cells hg2
  by_cases hE : chkE N l = 0
  · rw [hE]
    rw [if_pos hE] at hP
    obtain ⟨n, rfl⟩ : ∃ n : Nat, N = n := ⟨N.toNat, by have := (chk_zero hE).1; omega⟩
    rw [Int.toNat_natCast] at hP
    have hPl : P.length = n := by rw [hP, T3.labs_len]
    have hPT : tdy (ints P) 0 = true := by rw [hP]; exact labs_right _ (T3.lead_RT _) n
    subst hPl
    obtain ⟨hn1, hn2, _, hoa⟩ := chk_zero hE
    clear hoa
    have hn' : P.length ≤ 1024 := by omega
    have HC := Lib.hid hE
    have HPE := Lib.hid hP
    have HPT := Lib.hid hPT
    clear hP hPT hE
    go_wp2_with fail
    refine (large_any P.length a l cap w2 hl (HAR.out.on (by rw [hp]; exact HB2.out))).mono ?_
    rintro e w3 ⟨rfl, hb3⟩
    have hg3 := (hb3.block _ (lt_of_block hg2)).trans hg2
    have HG3 := Lib.hid hg3
    have HB3 := Lib.hid (below_tr HB2.out hp hb3)
    have HI3 := Lib.hid (HI2.out.on hb3)
    clear hb3 g0 g1
    obtain ⟨⟨g0, g1⟩, _⟩ := two_cells hg3
    obtain ⟨V, HV⟩ := named (lgB P.length l)
    rw [HV.out]
    cases V
    · obtain ⟨i3, hi3, hz3, hs3, hb3⟩ := info_parts info3
      have hmk : ∀ w, (Instr.makeSlice 25 (.int .i64 P.length) (.int .i64 P.length)).run Try.prog w = .ok (.slice (some ⟨w.heap.size, 0, none⟩) P.length P.length) (w.alloc (.cells ((List.range P.length).map (fun _ => Value.int .i64 0)).toArray 3)) := fun w => by
        have := run_make (P := Try.prog) w 25 3 i3 (.int .i64 0) Try.underlying25 hi3 hz3 .i64 .i64 P.length P.length (by omega) (by omega) (by rw [hb3]; omega) (by omega)
        rw [this, Int.toNat_natCast, hs3, made_int]
      clear hi3 hz3 hs3 hb3
      clear i3
      have HBX : Hid (Below w3.heap.size w3 (w3.alloc (.cells ((List.range P.length).map (fun _ => Value.int .i64 0)).toArray 3))) := (Below.refl _ _).alloc (Nat.le_refl _) _
      have HT0 : Hid (TbV (w3.alloc (.cells ((List.range P.length).map (fun _ => Value.int .i64 0)).toArray 3)) w3.heap.size P.length 3 (fun _ => .int .i64 0)) := heap_top w3 _
      go_wp2_with fail
      generalize hX : w3.alloc (.cells ((List.range P.length).map (fun _ => Value.int .i64 0)).toArray 3) = X at *
      generalize hq : w3.heap.size = q at *
      clear hX hmk
      go_loopw [31] (fun i wr => ∃ k : Nat, k ≤ P.length ∧ i = .int .i64 k ∧ Hid (TbV wr q P.length 3 (fun v => .int .i64 (((if v < k then v else 0 : Nat)) : Int))) ∧ Hid (Below q w3 wr)) (fun i _ => P.length - (intOf i).toNat)
      case atStart => exact ⟨0, Nat.zero_le _, rfl, HT0, HBX⟩
      case round =>
        obtain ⟨k, hk, rfl, HT, HBK⟩ := hrel
        clear HT0 HBX
        by_cases hlk : k < P.length
        · have hlk' : (k : Int) < P.length := by omega
          have d1 := HT.out.cell hlk
          have d2 := HT.out.free k
          have HTN : Hid (TbV (wr.setCell ⟨q, k, none⟩ (.int .i64 (k : Int))) q P.length 3 (fun v => .int .i64 (((if v < k + 1 then v else 0 : Nat)) : Int))) := (HT.out.set k (.int .i64 (k : Int))).congr (fun u _ => by
            by_cases e : u = k
            · subst e; rw [updV_self, if_pos (by omega)]
            · rw [updV_ne _ _ e]
              by_cases e2 : u < k
              · rw [if_pos e2, if_pos (by omega)]
              · rw [if_neg e2, if_neg (by omega)])
          generalize (if k < k then k else 0 : Nat) = old at d1
          go_wp2_with fail
          exact ⟨⟨k + 1, by omega, by simp, HTN, HBK.out.setCell (Nat.le_refl _) _⟩, by simp [intOf]; omega⟩
        · obtain rfl : k = P.length := by omega
          have hlk' : ¬ (P.length : Int) < P.length := by omega
          have HRI := Lib.hid (range_ints (HT.out.congr (U := fun v => .int .i64 ((v : Nat) : Int)) (fun v hv => by rw [if_pos hv])) hn')
          have HB4 : Hid (Below p w wr) := below_tr HB3.out hp (by rw [hq]; exact HBK.out)
          have HI4 := Lib.hid (HI3.out.on (by rw [hq]; exact HBK.out))
          have hg4 := (HBK.out.block _ (hq ▸ lt_of_block HG3.out)).trans HG3.out
          have HG4 := Lib.hid hg4
          clear g0 g1
          obtain ⟨⟨g0, g1⟩, _⟩ := two_cells hg4
          clear hg4
          have HJ1 := Lib.hid (join_all P.length a l cap (some ⟨q, 0, none⟩) (ints (List.range P.length)) P.length P.length wr hl (by rw [ints_len, List.length_range]; omega) (HAR.out.on (by rw [hp]; exact HB4.out)) HRI.out)
          have HE1 := Lib.hid (jn_ok (B := P.length) HC.out List.length_range (range_right P.length) (range_und (by omega)) (by omega) hn')
          rw [HE1.out, ints_len, List.length_range] at HJ1
          go_wp2_with fail
          refine HJ1.out.mono ?_
          rintro e w5 ⟨v5, c5, E5, rfl, hown5, hJ5, hb5⟩
          have hE5 : E5 = P := by
            obtain ⟨F, hF, e⟩ := hJ5.out.get HE1.out
            rw [e, parts_join HC.out hF]
            exact HPE.out.symm
          subst hE5
          have HO5 := Lib.hid (own_ints hown5 rfl)
          have HB5 := Lib.hid (below_tr HB4.out hp hb5)
          have HI5 := Lib.hid (HI4.out.on hb5)
          have HR5 := Lib.hid (HRI.out.on hb5)
          have hg5 := (hb5.block _ (lt_of_block HG4.out)).trans HG4.out
          have HG5 := Lib.hid hg5
          clear g0 g1 hb5 hown5 hJ5 HJ1
          obtain ⟨⟨g0, g1⟩, _⟩ := two_cells hg5
          clear hg5
          have HC1 := Lib.hid (cutUp_any E5.length a l cap v2 (ints E5) c2 1 w5 hl (by rw [ints_len]; omega) (HAR.out.on (by rw [hp]; exact HB5.out)) HI5.out)
          have HE2 : Hid (ckE E5.length l (ints E5) 1 = 0) := by
            show _ = _
            unfold ckE
            rw [if_neg (by rw [siE_ok HC.out rfl HPT.out]; simp), if_neg (by omega)]
          rw [HE2.out, if_pos rfl, ints_len, toNat_ints] at HC1
          go_wp2_with fail
          refine HC1.out.mono ?_
          rintro e w6 ⟨v6, c6, E6, rfl, hown6, hE6, hb6⟩
          have hE6 : E6 = List.range E5.length := hE6.trans (cut_single HC.out rfl HPT.out)
          subst hE6
          have HO6 := Lib.hid (own_ints hown6 rfl)
          have HB6 := Lib.hid (below_tr HB5.out hp hb6)
          have HI6 := Lib.hid (HI5.out.on hb6)
          have HR6 := Lib.hid (HR5.out.on hb6)
          have HP6 := Lib.hid (HO5.out.on hb6)
          have hg6 := (hb6.block _ (lt_of_block HG5.out)).trans HG5.out
          clear g0 g1 hb6 hown6 HC1
          obtain ⟨⟨g0, g1⟩, _⟩ := two_cells hg6
          have HJ2 := Lib.hid (join_all E5.length a l cap (some ⟨q, 0, none⟩) (ints (List.range E5.length)) E5.length 1 w6 hl (by rw [ints_len, List.length_range]; omega) (HAR.out.on (by rw [hp]; exact HB6.out)) HR6.out)
          have HE3 := Lib.hid (jn_ok (B := 1) HC.out List.length_range (range_right E5.length) (range_und (Nat.le_refl _)) (Nat.le_refl _) (by decide))
          have HE3' : Hid (jnE E5.length l (ints (List.range E5.length)) 1 = 0) := HE3.out
          rw [HE3'.out, ints_len, List.length_range] at HJ2
          rw [List.length_range]
          go_wp2_with fail
          refine HJ2.out.mono ?_
          rintro e w7 ⟨v7, c7, E7, rfl, hown7, hJ7, hb7⟩
          have hE7 : E7 = List.range E5.length := by
            obtain ⟨F, hF, e⟩ := JnR.get (B := 1) hJ7.out HE3.out
            rw [e, parts_single HC.out hF]
          subst hE7
          have HO7 := Lib.hid (own_ints hown7 rfl)
          have HB7 := Lib.hid (below_tr HB6.out hp hb7)
          have HI7 := Lib.hid (HI6.out.on hb7)
          have HR7 := Lib.hid (HR6.out.on hb7)
          have HP7 := Lib.hid (HP6.out.on hb7)
          have HQ7 := Lib.hid (HO6.out.on hb7)
          clear g0 g1 hb7 hown7 HJ2 hJ7
          rw [List.length_range]
          go_wp2_with fail
          refine (sameN_any v5 v2 c5 c2 E5 w7 (by omega) HP7.out HI7.out).mono ?_
          rintro e w8 ⟨rfl, hb8⟩
          have HB8 := Lib.hid (below_tr HB7.out hp hb8)
          have HS8 := Lib.hid (sameN_any v6 (some ⟨q, 0, none⟩) c6 E5.length (List.range E5.length) w8 (by rw [List.length_range]; omega) (HQ7.out.on hb8) (HR7.out.on hb8))
          have HO8 := Lib.hid (HO7.out.on hb8)
          have HR8 := Lib.hid (HR7.out.on hb8)
          rw [List.length_range] at HS8
          clear hb8
          go_wp2_with fail
          refine HS8.out.mono ?_
          rintro e w9 ⟨rfl, hb9⟩
          have HB9 := Lib.hid (below_tr HB8.out hp hb9)
          have HS9 := Lib.hid (sameN_any v7 (some ⟨q, 0, none⟩) c7 E5.length (List.range E5.length) w9 (by rw [List.length_range]; omega) (HO8.out.on hb9) (HR8.out.on hb9))
          rw [List.length_range] at HS9
          clear hb9 HS8
          go_wp2_with fail
          refine HS9.out.mono ?_
          rintro e w10 ⟨rfl, hb10⟩
          have HB10 := Lib.hid (below_tr HB9.out hp hb10)
          clear hb10
          go_wp2_with fail
          go_ret
          exact ⟨rfl, HB10.out⟩
    · go_wp2_with fail
      go_ret
      exact ⟨rfl, HB3.out⟩
  · obtain ⟨E, HE⟩ := named (chkE N l)
    rw [HE.out] at hE ⊢
    have e1 : (E != 0) = true := by simpa using hE
    clear hE hP
    go_wp2_with fail
    go_ret
    exact ⟨rfl, HB2.out⟩
end Go.Proofs.Ytchfccbneedejaa
