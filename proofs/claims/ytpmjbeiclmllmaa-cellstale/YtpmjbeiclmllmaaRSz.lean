/-
  Contracts of flyoverref08.Right and flyoverref09.Size.
-/
import Derived.Test.YtpmjbeiclmllmaaRgtM
import Derived.Test.YtpmjbeiclmllmaaTRTidyI
import Derived.Test.YtpmjbeiclmllmaaRChk
namespace Go.Proofs.Ytpmjbeiclmllmaa
open Go.RowKit
set_option maxRecDepth 100000 in
set_option maxHeartbeats 1600000 in
theorem rright_any (n : Nat) (a : Option Addr) (l : List A) (cap : Nat) (b : Option Addr) (xs : List Int) (bc : Nat) (w : World) (hn : n ≤ 1024) (hx : xs.length ≤ 9223372036854775807) (hi : Ints w b xs) :
    Calls Try.prog 90 #[.agg #[.int .i64 n, .slice a l.length cap], .slice b xs.length bc] w fun e w' => e = .returned (.bool (decide (xs.length = n) && tdy xs 0)) ∧ Below w.heap.size w w' := by
  have hb0 : Below w.heap.size w (w.alloc (.cells #[.int .i64 n, .slice a l.length cap] 24)) := (Below.refl _ _).alloc (Nat.le_refl _) _
  have hg := heap_top w (.cells #[.int .i64 n, .slice a l.length cap] 24)
  have HI := Lib.hid (hi.on hb0)
  have hwz : w.heap.size ≤ (w.alloc (.cells #[.int .i64 n, .slice a l.length cap] 24)).heap.size := hb0.size
  have HB0 := Lib.hid hb0
  obtain ⟨V, HV⟩ := named (decide (xs.length = n) && tdy xs 0)
  rw [HV.out]
  obtain ⟨⟨c0, c1⟩, _⟩ := two_cells hg
  clear hb0 hi
  generalize hp : w.heap.size = p at *
  go_enter Try.func90, Try.ntmps90
  by_cases hxn : ¬ xs.length = n
  · have e1 : ((xs.length : Int) != (n : Int)) = true := by simp; omega
    have HF : Hid (V = false) := by show _ = _; rw [← HV.out]; simp [hxn]
    clear hxn
    go_wp2_with fail
    go_ret
    exact ⟨by rw [HF.out]; rfl, HB0.out⟩
  obtain rfl : n = xs.length := by omega
  have e1 : ((xs.length : Int) != (xs.length : Int)) = false := by simp
  have HVT : Hid (V = tdy xs 0) := by show _ = _; rw [← HV.out]; simp
  clear hxn
  go_wp2_with fail
  generalize hW : w.alloc (.cells #[.int .i64 xs.length, .slice a l.length cap] 24) = W at *
  clear hW
  have hpz : p < W.heap.size := lt_of_block hg
  have HTD := Lib.hid (T3.rtidyI_any b xs.length bc xs (ldI xs) W hn (ldI_RT xs) rfl (fun u v _ _ => ldI_iff) HI.out)
  refine HTD.out.mono ?_
  rintro e w2 ⟨rfl, hown2, hb2⟩
  have HB2 : Hid (Below p w w2) := HB0.out.trans (hb2.mono hwz)
  have hg2 := (hb2.block p hpz).trans hg
  have HG2 := Lib.hid hg2
  have HI2 := Lib.hid (HI.out.on hb2)
  have HO2 := Lib.hid hown2
  have HTI := Lib.hid (tdy_iff xs)
  obtain ⟨ix, ox, hix⟩ := HI2.out.get
  have HIX := Lib.hid hix
  have hz2 : p < w2.heap.size := lt_of_block hg2
  clear hb2 hown2 hg hwz hix c0 c1 HTD hg2
  generalize hq : W.heap.size = q at *
  go_wp2_with fail
  go_loopw [6] (fun i wr => ∃ (k : Nat), k ≤ xs.length ∧ i = .int .i64 k ∧ Hid (∀ j, j < k → xs.getD j 0 = ((T3.lab (ldI xs) j : Nat) : Int)) ∧ Hid (Below w2.heap.size w2 wr)) (fun i _ => xs.length - (intOf i).toNat)
  case atStart => exact ⟨0, Nat.zero_le _, rfl, fun j hj => by omega, Below.refl _ _⟩
  case round =>
    obtain ⟨k, hk, rfl, HJ, HBR⟩ := hrel
    have hgr := (HBR.out.block p hz2).trans HG2.out
    obtain ⟨⟨c0, c1⟩, _⟩ := two_cells hgr
    by_cases hlk : k < xs.length
    · obtain ⟨rfl, hbl, hat⟩ := HIX.out (by omega)
      have hlk' : (k : Int) < xs.length := by omega
      have y0 := (HBR.out.cell (p := ⟨ix, ox + k, none⟩) hbl).trans (hat k hlk)
      have y1 := (HBR.out.cell (p := ⟨q, k, none⟩) HO2.out.lt).trans (HO2.out.cell (T3.labs_len _ _) k hlk)
      rw [T3.labs_getD _ _ k hlk] at y1
      have HBN : ∀ nq, Hid (Below w2.heap.size w2 (wr.drewN nq)) := fun _ => ⟨HBR.out.os, HBR.out.tape, HBR.out.output, HBR.out.size, HBR.out.block⟩
      have HBP : ∀ nq, Hid (Below p w (wr.drewN nq)) := fun nq => HB2.out.trans ((HBN nq).out.mono (by omega))
      clear hat
      by_cases hE : xs.getD k 0 = ((T3.lab (ldI xs) k : Nat) : Int)
      · have HJ2 : Hid (∀ j, j < k + 1 → xs.getD j 0 = ((T3.lab (ldI xs) j : Nat) : Int)) := fun j hj => by
          by_cases e : j = k
          · rw [e]; exact hE
          · exact HJ.out j (by omega)
        rw [hE] at y0
        clear hE HJ
        generalize T3.lab (ldI xs) k = z at *
        have e2 : ((z : Int) != (z : Int)) = false := by simp
        go_wp2_with fail
        go_quiet (fail)
        go_wp2_with fail
        exact ⟨⟨k + 1, by omega, by simp, HJ2, HBN _⟩, by simp [intOf]; omega⟩
      · have HF : Hid (V = false) := by
          show _ = _
          rw [HVT.out, Bool.eq_false_iff]
          intro h
          have h2 := HTI.out.1 h
          refine hE ?_
          have h3 : (T3.ints (T3.labs (ldI xs) xs.length)).getD k 0 = ((T3.lab (ldI xs) k : Nat) : Int) := by rw [T3.ints_getD, T3.labs_getD _ _ k hlk]
          rw [← h3, ← h2]
        have e2 : (((T3.lab (ldI xs) k : Nat) : Int) != xs.getD k 0) = true := by simp; exact fun h => hE h.symm
        clear hE HJ
        generalize T3.lab (ldI xs) k = z at *
        generalize xs.getD k 0 = y at *
        go_wp2_with fail
        go_quiet (fail)
        go_wp2_with fail
        go_ret
        exact ⟨by rw [HF.out]; rfl, (HBP _).out⟩
    · have hlk' : ¬ (k : Int) < xs.length := by omega
      have HF : Hid (V = true) := by
        show _ = _
        rw [HVT.out]
        exact HTI.out.2 (T3.ext_labs rfl (fun j hj => HJ.out j (by omega)))
      have HBP : Hid (Below p w wr) := HB2.out.trans (HBR.out.mono (by omega))
      go_wp2_with fail
      go_ret
      exact ⟨by rw [HF.out]; rfl, HBP.out⟩
set_option maxRecDepth 100000 in
set_option maxHeartbeats 1600000 in
theorem rsize_any (b : Option Addr) (xs : List Int) (bc : Nat) (w : World) (hxl : xs.length ≤ 1024) (hT : tdy xs 0 = true) (hi : Ints w b xs) :
    Calls Try.prog 92 #[.slice b xs.length bc] w fun e w' => ∃ v c, e = .returned (.slice v (szL xs).length c) ∧ w'.ownsRow w.heap.size 3 1 (.slice v (szL xs).length c) (szL xs).length (cellsI (ints (szL xs))) ∧ Below w.heap.size w w' := by
  obtain ⟨i3, hi3, hz3, hs3, hby3⟩ := info_parts info3
  obtain ⟨Z, HZ⟩ := named (szL xs)
  rw [HZ.out]
  obtain ⟨ix, ox, hix⟩ := hi.get
  have HIX := Lib.hid hix
  have HV := Lib.hid hT
  clear hi hix hT
  generalize hp : w.heap.size = p at *
  go_enter Try.func92, Try.ntmps92
  go_wp2_with fail
  go_loopw [3, 4] (fun s6 i wr => ∃ (k : Nat) (av : Option Addr) (cv : Nat) (S : List Nat), k ≤ xs.length ∧ i = .int .i64 k ∧ s6 = .slice av S.length cv ∧ S.length ≤ k ∧ Hid (szL (xs.take k) = S) ∧ Hid (tdy (xs.drop k) S.length = true) ∧ Hid (wr.ownsRow p 3 1 (.slice av S.length cv) S.length (cellsI (ints S))) ∧ Hid (Below p w wr)) (fun _ i _ => xs.length - (intOf i).toNat)
  case atStart => exact ⟨0, none, 0, [], Nat.zero_le _, rfl, rfl, Nat.zero_le _, rfl, HV, World.ownsRow_nil _ _ _ _, Below.refl _ _⟩
  case round =>
    obtain ⟨k, av, cv, S, hk, rfl, rfl, hSk, HS, HK, HOW, HBR⟩ := hrel
    have hwr : p ≤ wr.heap.size := hp ▸ HBR.out.size
    by_cases hlk : k < xs.length
    · obtain ⟨rfl, hbl, hat⟩ := HIX.out (by omega)
      have hlk' : (k : Int) < xs.length := by omega
      have HY0 := Lib.hid ((HBR.out.cell (p := ⟨ix, ox + k, none⟩) (hp ▸ hbl)).trans (hat k hlk))
      have hk2 := HK.out
      rw [drop_getI hlk] at hk2
      simp only [tdy] at hk2
      have HK2 := Lib.hid hk2
      have HSN : Hid (szL (xs.take (k + 1)) = szS S (xs.getD k 0).toNat) := by show _ = _; rw [take_snocI hlk, szL_snoc, HS.out]
      clear hat hk2
      generalize xs.getD k 0 = x at *
      have hx0 : ¬ (x < 0 ∨ (S.length : Int) < x) := fun h => by have h1 := HK2.out; rw [if_pos h] at h1; cases h1
      rw [if_neg hx0] at HK2
      obtain ⟨y, hy⟩ : ∃ y : Nat, x = y := ⟨x.toNat, by omega⟩
      subst hy
      have hyS : y ≤ S.length := by omega
      clear hx0
      rw [Int.toNat_natCast] at HSN
      have y0 := HY0.out
      by_cases h2 : y = S.length
      · subst h2
        have hq : ((S.length : Int) == (S.length : Int)) = true := by simp
        have HNS : Hid (szS S S.length = S ++ [1]) := if_pos rfl
        rw [HNS.out] at HSN
        rw [if_pos rfl] at HK2
        have HK3 : Hid (tdy (xs.drop (k + 1)) (((S ++ [1]).length : Nat) : Int) = true) := by
          have h3 := HK2.out
          rw [show ((S.length : Int) + 1) = (((S ++ [1]).length : Nat) : Int) by rw [List.length_append]; rfl] at h3
          exact h3
        have HNW := Lib.hid (one_new wr 0)
        have HO2 := Lib.hid (HOW.out.alloc (.cells #[.int .i64 0] 3))
        have HBZ : Hid (p ≤ (wr.alloc (.cells #[.int .i64 0] 3)).heap.size) := by show _ ≤ _; rw [World.size_alloc]; omega
        have HBB : Hid (Below p w (wr.alloc (.cells #[.int .i64 0] 3))) := HBR.out.alloc (by omega) _
        have HOL : Hid (∀ b, (Value.slice av S.length cv).ownBlock = some b → p ≤ b) := fun b hb => (HOW.out.lt b hb).1
        have HCA : Hid (cellsI (ints S) ++ [.int .i64 0] = cellsI (ints (S ++ [0]))) := by show _ = _; rw [ints_snoc, ← cellsI_snoc]; rfl
        have hs8 : S.length ≤ 1024 := by omega
        have hblp : ix < p := hp ▸ hbl
        go_wp2_with (at_builtin; refine wpList_append_own _ rfl (.tmp 18) (.tmp 19) 25 rfl p 3 i3 (.int .i64 0) 1 8 Try.underlying25 hi3 hz3 hs3 hby3 rfl (by decide) (.slice av S.length cv) S.length (cellsI (ints S)) rfl HO2.out ⟨wr.heap.size, 0, none⟩ 1 1 [.int .i64 0] rfl rfl HNW.out (one_i64 _) (by unfold maxLen; omega) (by omega) HBZ.out ?_; intro v6 w6 hown6 hgrow6 hnil6; obtain ⟨g6, c6, hv6, _, hc6, _, hm6⟩ := own_shape hown6 (fun e => by have := hnil6.1 e; simp at this); subst hv6; rw [HCA.out] at hown6; have h7 : w6.ownsRow p 3 1 (.slice (some ⟨g6, 0, none⟩) (S ++ [0]).length c6) (S ++ [0]).length (cellsI (ints (S ++ [0]))) := (by rw [List.length_append]; exact hown6); have d1 := own_cellI h7 (k := S.length) (by rw [List.length_append]; simp); have d2 := World.ownsRow.frozenAt h7 S.length; rw [getD_end S 0] at d1; have HO7 := Lib.hid (own_setI h7 S.length 1); have HB6 : Hid (Below p w w6) := HBB.out.grown hgrow6 HBZ.out (fun j hj => HOL.out j hj); have hg6 : p ≤ g6 := (h7.lt g6 rfl).1; have hc6' : ((S.length : Int) + 1) ≤ c6 := (by omega); have z0 := (HB6.out.cell (p := ⟨ix, ox + k, none⟩) hblp).trans ((HBR.out.cell (p := ⟨ix, ox + k, none⟩) hblp).symm.trans HY0.out); clear hown6 hgrow6 hnil6 h7 y0)
        rw [set_end S 0 1] at HO7
        refine ⟨⟨k + 1, some ⟨g6, 0, none⟩, c6, S ++ [1], by omega, by simp, by rw [List.length_append]; rfl, by rw [List.length_append]; simp; omega, HSN, HK3, HO7, Lib.hid (HB6.out.setCell hg6 _)⟩, by simp [intOf]; omega⟩
      · have hq : ((y : Int) == (S.length : Int)) = false := by simp; omega
        have hy : y < S.length := by omega
        have hy' : (y : Int) < S.length := by omega
        have HNS : Hid (szS S y = S.set y (S.getD y 0 + 1)) := if_neg h2
        rw [HNS.out] at HSN
        rw [if_neg (by omega)] at HK2
        have HK3 : Hid (tdy (xs.drop (k + 1)) (((S.set y (S.getD y 0 + 1)).length : Nat) : Int) = true) := by rw [List.length_set]; exact HK2
        obtain ⟨g, cg, hv, hg1, _, _, _⟩ := own_shape HOW.out (fun e => by injection e with _ e2 _; omega)
        injection hv with hv1 _ hv3
        subst hv1 hv3
        have d1 := own_cellI HOW.out hy
        have d2 := World.ownsRow.frozenAt HOW.out y
        have HO7 := Lib.hid (own_setI HOW.out y (S.getD y 0 + 1))
        have hsz : (((S.getD y 0 : Nat) : Int) + 1) ≤ 1000000 := by
          have h3 := szL_le (xs.take k) y
          rw [HS.out, List.length_take] at h3
          omega
        generalize S.getD y 0 = sy at *
        clear h2
        go_wp2_with fail
        refine ⟨⟨k + 1, some ⟨g, 0, none⟩, cv, S.set y (sy + 1), by omega, by simp, by rw [List.length_set], by rw [List.length_set]; omega, HSN, HK3, ?_, Lib.hid (HBR.out.setCell hg1 _)⟩, by simp [intOf]; omega⟩
        exact HO7
    · have e2 : xs.take k = xs := List.take_of_length_le (by omega)
      have hlk' : ¬ (k : Int) < xs.length := by omega
      rw [e2, HZ.out] at HS
      obtain rfl : Z = S := HS.out
      clear e2
      go_wp2_with fail
      go_ret
      exact ⟨av, cv, rfl, HOW.out, HBR.out⟩
end Go.Proofs.Ytpmjbeiclmllmaa
