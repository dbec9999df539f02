/-
  Contracts of the reference's Unframe and Frames: what the code's answer.
-/
import Derived.Test.YtgcnpmjpdhgikaaDoorRefFrame
namespace Go.Proofs.YtgcnpmjpdhgikaaDoor
open Go.RowKit
def fltV (a c : Int) : Value := .tuple #[.string ⟨#[]⟩, .int .i64 0, .agg #[.int .i64 a, .int .i64 c]]
/-- What Unframe answers at a place within, by whatever reads four bytes. -/
def unF (F : ByteArray → Nat) (s : ByteArray) (k : Nat) : Value :=
  if s.size - k < 8 then fltV k 23
  else if 262144 < F (s.extract k (k + 4)) then fltV k 2
  else if s.size - k - 8 < F (s.extract k (k + 4)) then fltV k 23
  else if crcD (s.extract (k + 8) (k + 8 + F (s.extract k (k + 4)))).data.toList = F (s.extract (k + 4) (k + 8)) then .tuple #[.string (s.extract (k + 8) (k + 8 + F (s.extract k (k + 4)))), .int .i64 ((k : Int) + 8 + F (s.extract k (k + 4))), .agg #[.int .i64 0, .int .i64 0]]
  else fltV k 25
set_option maxHeartbeats 400000 in
theorem runframe_out (s : ByteArray) (a : Int) (h : a < 0 ∨ (s.size : Int) < a) (w : World) :
    Calls Tryd.prog 22 #[.string s, .int .i64 a] w fun e w' => e = .returned (.tuple #[.string ⟨#[]⟩, .int .i64 0, .agg #[.int .i64 0, .int .i64 1]]) ∧ Below w.heap.size w w' := by
  by_cases h0 : a < 0
  · go_enter Tryd.func22, Tryd.ntmps22
    go_wp2_with fail
    refine (rfault_any 0 1 _).mono ?_
    rintro e w1 ⟨rfl, hb⟩
    obtain ⟨hc, hf⟩ := bcell hb (by simp)
    have hz : w.heap.size + 1 ≤ w1.heap.size := by have := hb.size; simp at this; omega
    go_wp2_with fail
    exact bodyPost_ret (v := .tuple #[.string ⟨#[]⟩, .int .i64 0, .agg #[.int .i64 0, .int .i64 1]]) (by simp [results, Tryd.results22, go_sem, hc]) rfl ⟨rfl, two_set hb (by simp) _ _⟩
  · have h1 : (s.size : Int) < a := by omega
    clear h
    go_enter Tryd.func22, Tryd.ntmps22
    go_wp2_with fail
    refine (rfault_any 0 1 _).mono ?_
    rintro e w1 ⟨rfl, hb⟩
    obtain ⟨hc, hf⟩ := bcell hb (by simp)
    have hz : w.heap.size + 1 ≤ w1.heap.size := by have := hb.size; simp at this; omega
    go_wp2_with fail
    exact bodyPost_ret (v := .tuple #[.string ⟨#[]⟩, .int .i64 0, .agg #[.int .i64 0, .int .i64 1]]) (by simp [results, Tryd.results22, go_sem, hc]) rfl ⟨rfl, two_set hb (by simp) _ _⟩
set_option maxHeartbeats 4000000 in
theorem runframe_of (F : ByteArray → Nat) (hF : ∀ t, F t < 4294967296) (H : ∀ t : ByteArray, 4 ≤ t.size → ∀ w, Calls Tryd.prog 39 #[.string t] w fun e w' => e = .returned (.int .u32 (F t : Int)) ∧ ∃ n, w' = w.drewN n)
    (s : ByteArray) (hs : s.size ≤ 4611686018427387904) (k : Nat) (hk : k ≤ s.size) (w : World) :
    Calls Tryd.prog 22 #[.string s, .int .i64 k] w fun e w' => e = .returned (unF F s k) ∧ Below w.heap.size w w' := by
  have hk' : ¬ (s.size : Int) < k := by omega
  have hk0 : ¬ (k : Int) < 0 := by omega
  have HH := Lib.hid H
  clear H
  unfold unF fltV
  by_cases h8 : s.size - k < 8
  · rw [if_pos h8]
    have h8' : (s.size : Int) - k < 8 := by omega
    go_enter Tryd.func22, Tryd.ntmps22
    go_wp2_with fail
    refine (rfault_any k 23 _).mono ?_
    rintro e w1 ⟨rfl, hb⟩
    obtain ⟨hc, hf⟩ := bcell hb (by simp)
    have hz : w.heap.size + 1 ≤ w1.heap.size := by have := hb.size; simp at this; omega
    go_wp2_with fail
    exact bodyPost_ret (v := .tuple #[.string ⟨#[]⟩, .int .i64 0, .agg #[.int .i64 k, .int .i64 23]]) (by simp [results, Tryd.results22, go_sem, hc]) rfl ⟨rfl, two_set hb (by simp) _ _⟩
  rw [if_neg h8]
  have h8' : ¬ (s.size : Int) - k < 8 := by omega
  have e4 : (k : Int) + 4 ≤ s.size := by omega
  have e8 : (k : Int) + 8 ≤ s.size := by omega
  have g1 : (k : Int) ≤ (k : Int) + 4 := by omega
  have g2 : (0 : Int) ≤ (k : Int) + 4 := by omega
  have g3 : (k : Int) + 4 ≤ (k : Int) + 8 := by omega
  have g4 : (0 : Int) ≤ (k : Int) + 8 := by omega
  have H1 : Hid (4 ≤ (s.extract k (k + 4)).size) := by show _ ≤ _; rw [extract_size]; omega
  have H2 : Hid (4 ≤ (s.extract (k + 4) (k + 8)).size) := by show _ ≤ _; rw [extract_size]; omega
  have hX := hF (s.extract k (k + 4))
  have hY := hF (s.extract (k + 4) (k + 8))
  have HC1 := Lib.hid (HH.out _ H1.out)
  have HC2 := Lib.hid (HH.out _ H2.out)
  generalize F (s.extract k (k + 4)) = X at *
  generalize F (s.extract (k + 4) (k + 8)) = Y at *
  generalize hRV : (if 262144 < X then (_ : Value) else _) = RV
  have HRV := Lib.hid hRV
  clear hRV
  go_enter Tryd.func22, Tryd.ntmps22
  go_wp2_with fail
  refine (HC1.out _).mono ?_
  rintro e w1 ⟨rfl, q, hq⟩
  have hbq : Below (w.heap.size + 1) (w.alloc (.cells #[.int .i64 0, .int .i64 0] 32)) w1 := by rw [hq]; exact below_drewN _ _ _
  have hz1 : w.heap.size + 1 ≤ w1.heap.size := by have := hbq.size; simp at this; omega
  clear hq
  by_cases c1 : 262144 < X
  · have c1' : (262144 : Int) < X := by omega
    go_wp2_with fail
    refine (rfault_any k 2 _).mono ?_
    rintro e w2 ⟨rfl, hb2⟩
    have hb3 := hbq.trans (hb2.mono hz1)
    obtain ⟨hc, hf⟩ := bcell hb3 (by omega)
    have hz : w.heap.size + 1 ≤ w2.heap.size := by have := hb3.size; simp at this; omega
    go_wp2_with fail
    exact bodyPost_ret (v := .tuple #[.string ⟨#[]⟩, .int .i64 0, .agg #[.int .i64 k, .int .i64 2]]) (by simp [results, Tryd.results22, go_sem, hc]) rfl ⟨by rw [← HRV.out, if_pos c1], two_set hb3 (by omega) _ _⟩
  have c1' : ¬ (262144 : Int) < X := by omega
  by_cases c2 : s.size - k - 8 < X
  · have c2' : (s.size : Int) - k - 8 < X := by omega
    go_wp2_with fail
    refine (rfault_any k 23 _).mono ?_
    rintro e w2 ⟨rfl, hb2⟩
    have hb3 := hbq.trans (hb2.mono hz1)
    obtain ⟨hc, hf⟩ := bcell hb3 (by omega)
    have hz : w.heap.size + 1 ≤ w2.heap.size := by have := hb3.size; simp at this; omega
    go_wp2_with fail
    exact bodyPost_ret (v := .tuple #[.string ⟨#[]⟩, .int .i64 0, .agg #[.int .i64 k, .int .i64 23]]) (by simp [results, Tryd.results22, go_sem, hc]) rfl ⟨by rw [← HRV.out, if_neg c1, if_pos c2], two_set hb3 (by omega) _ _⟩
  have c2' : ¬ (s.size : Int) - k - 8 < X := by omega
  have g5 : (k : Int) + 8 ≤ (k : Int) + 8 + X := by omega
  have g6 : (k : Int) + 8 + X ≤ s.size := by omega
  have g7 : (0 : Int) ≤ (k : Int) + 8 + X := by omega
  have HSZ : Hid ((s.extract (k + 8) (k + 8 + X)).size ≤ 9223372036854775807) := by show _ ≤ _; rw [extract_size]; omega
  have HCR := Lib.hid (rcrc_any (s.extract (k + 8) (k + 8 + X)) HSZ.out)
  obtain ⟨C, HC⟩ := named (crcD (s.extract (k + 8) (k + 8 + X)).data.toList)
  rw [HC.out] at HCR
  have hV1 := HRV.out
  rw [if_neg c1, if_neg c2, HC.out] at hV1
  have HV1 := Lib.hid hV1
  clear hV1 HRV
  by_cases c3 : C = Y
  · have c3' : ((C : Int) == (Y : Int)) = true := by rw [beq_iff_eq]; omega
    have hV2 := HV1.out
    rw [if_pos c3] at hV2
    have HV2 := Lib.hid hV2
    clear hV2 HV1 c3
    obtain ⟨bs, HBS⟩ := named (s.extract (k + 8) (k + 8 + X))
    rw [HBS.out] at HCR HV2
    go_wp2_with fail
    rw [HBS.out]
    go_quiet (first | (go_at_call 20; exact Calls.quiet_of_same (HCR.out _)) | (go_at_call 39; exact Calls.quiet_of (HC2.out _)))
    have hb3 := hbq.trans (below_drewN _ _ nq)
    obtain ⟨hc, hf⟩ := bcell hbq (by omega)
    go_wp2_with fail
    refine bodyPost_ret (v := .tuple #[.string bs, .int .i64 ((k : Int) + 8 + X), .agg #[.int .i64 0, .int .i64 0]]) (by simp [results, Tryd.results22, go_sem, hc]) rfl ⟨by rw [← HV2.out], two_set hb3 (by omega) _ _⟩
  · have c3' : ((C : Int) == (Y : Int)) = false := beq_eq_false_iff_ne.2 (by omega)
    have hV2 := HV1.out
    rw [if_neg c3] at hV2
    have HV2 := Lib.hid hV2
    clear hV2 HV1 c3
    obtain ⟨bs, HBS⟩ := named (s.extract (k + 8) (k + 8 + X))
    rw [HBS.out] at HCR
    go_wp2_with fail
    rw [HBS.out]
    go_quiet (first | (go_at_call 20; exact Calls.quiet_of_same (HCR.out _)) | (go_at_call 39; exact Calls.quiet_of (HC2.out _)))
    have hbq2 := hbq.trans (below_drewN _ _ nq)
    go_wp2_with fail
    refine (rfault_any k 25 _).mono ?_
    rintro e w2 ⟨rfl, hb2⟩
    have hb3 := hbq2.trans (hb2.mono (by simp; omega))
    obtain ⟨hc, hf⟩ := bcell hb3 (by omega)
    have hz : w.heap.size + 1 ≤ w2.heap.size := by have := hb3.size; simp at this; omega
    go_wp2_with fail
    exact bodyPost_ret (v := .tuple #[.string ⟨#[]⟩, .int .i64 0, .agg #[.int .i64 k, .int .i64 25]]) (by simp [results, Tryd.results22, go_sem, hc]) rfl ⟨by rw [← HV2.out], two_set hb3 (by omega) _ _⟩
theorem wordL_take (l : List UInt8) (h : 4 ≤ l.length) : wordL (l.take 4) = wordL l := by
  match l, h with
  | a :: b :: c :: d :: r, _ => rfl
theorem runframe_any (s : ByteArray) (a : Int) (hs : s.size ≤ 4611686018427387904) (w : World) :
    Calls Tryd.prog 22 #[.string s, .int .i64 a] w fun e w' => e = .returned (unD s.data.toList a) ∧ Below w.heap.size w w' := by
  by_cases h : a < 0 ∨ (s.size : Int) < a
  · have e : unD s.data.toList a = .tuple #[.string ⟨#[]⟩, .int .i64 0, .agg #[.int .i64 0, .int .i64 1]] := by unfold unD; rw [if_pos (by simpa using h)]
    rw [e]
    exact runframe_out s a h w
  · obtain ⟨k, rfl⟩ : ∃ k : Nat, a = k := ⟨a.toNat, by omega⟩
    have hk : k ≤ s.size := by omega
    refine (runframe_of (fun t => wordL t.data.toList) (fun t => wordL_lt _) (fun t h4 w => rgetfour_any t h4 w) s hs k hk w).mono ?_
    rintro e w1 ⟨rfl, hb⟩
    refine ⟨?_, hb⟩
    have hl : s.data.toList.length = s.size := by simp
    have hdl : (s.data.toList.drop k).length = s.size - k := by simp
    congr 1
    symm
    unfold unD unF
    rw [if_neg (by omega), Int.toNat_natCast]
    by_cases h8 : s.size - k < 8
    · have e : bodyD (s.data.toList.drop k) = ([], 23) := by unfold bodyD; rw [if_pos (by omega)]
      rw [if_pos h8, e]; rfl
    · rw [if_neg h8]
      have e4 : (s.extract k (k + 4)).data.toList = (s.data.toList.drop k).take 4 := by rw [extract_list, show k + 4 - k = 4 by omega]
      have e48 : (s.extract (k + 4) (k + 8)).data.toList = ((s.data.toList.drop k).drop 4).take 4 := by rw [extract_list, show k + 8 - (k + 4) = 4 by omega, List.drop_drop]
      obtain ⟨x, hx⟩ : ∃ x, wordL (s.data.toList.drop k) = x := ⟨_, rfl⟩
      obtain ⟨y, hy⟩ : ∃ y, wordL ((s.data.toList.drop k).drop 4) = y := ⟨_, rfl⟩
      have hx' : (fun t : ByteArray => wordL t.data.toList) (s.extract k (k + 4)) = x := by
        show wordL (s.extract k (k + 4)).data.toList = x
        rw [e4, wordL_take _ (by omega)]; exact hx
      have hy' : (fun t : ByteArray => wordL t.data.toList) (s.extract (k + 4) (k + 8)) = y := by
        show wordL (s.extract (k + 4) (k + 8)).data.toList = y
        rw [e48, wordL_take _ (by simp; omega)]; exact hy
      have e9 : (s.extract (k + 8) (k + 8 + x)).data.toList = ((s.data.toList.drop k).drop 8).take x := by rw [extract_list, show k + 8 + x - (k + 8) = x by omega, List.drop_drop]
      rw [hx', hy', bodyD_eq _ (by omega) x y hx hy, hdl, e9]
      split
      · rfl
      · split
        · rfl
        · rename_i c1 c2
          split
          · rename_i c3
            rw [if_pos rfl]
            have el : (((s.data.toList.drop k).drop 8).take x).length = x := by rw [List.length_take, List.length_drop, hdl]; omega
            show Value.tuple _ = Value.tuple _
            rw [el, ← e9, str_back]
          · rfl
end Go.Proofs.YtgcnpmjpdhgikaaDoor
