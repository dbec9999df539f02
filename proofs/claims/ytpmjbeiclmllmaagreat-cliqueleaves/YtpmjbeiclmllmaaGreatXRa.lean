/-
  The reference's Check of nests. Contracts of flyoverref08.Right and flyoverref09.Size. The reference of nests: greatest, nested; the book's SameNest. A graph and a nest as they lie in a law's variables.
-/
import Derived.Test.YtpmjbeiclmllmaaGreatRgtM
import Derived.Test.YtpmjbeiclmllmaaGreatTRTidyI
import Derived.Test.YtpmjbeiclmllmaaGreatXCec
import Derived.Deep.RegionHeld3
namespace Go.Proofs.YtpmjbeiclmllmaaGreat
open Go.RowKit
set_option maxRecDepth 100000 in
set_option maxHeartbeats 1600000 in
theorem rright_any (n : Nat) (a : Option Addr) (l : List A) (cap : Nat) (b : Option Addr) (xs : List Int) (bc : Nat) (w : World) (hn : n ≤ 1024) (hx : xs.length ≤ 9223372036854775807) (hi : Ints w b xs) :
    Calls Tryz.prog 89 #[.agg #[.int .i64 n, .slice a l.length cap], .slice b xs.length bc] w fun e w' => e = .returned (.bool (decide (xs.length = n) && tdy xs 0)) ∧ Below w.heap.size w w' := by
  have hb0 : Below w.heap.size w (w.alloc (.cells #[.int .i64 n, .slice a l.length cap] 24)) := (Below.refl _ _).alloc (Nat.le_refl _) _
  have hg := heap_top w (.cells #[.int .i64 n, .slice a l.length cap] 24)
  have HI := Lib.hid (hi.on hb0)
  have hwz : w.heap.size ≤ (w.alloc (.cells #[.int .i64 n, .slice a l.length cap] 24)).heap.size := hb0.size
  have HB0 := Lib.hid hb0
  obtain ⟨V, HV⟩ := named (decide (xs.length = n) && tdy xs 0)
  rw [HV.out]
  obtain ⟨⟨c0, c1⟩, _⟩ := two_cells hg
  clear hb0 hi
  generalize hp : w.heap.size = p at *
  go_enter Tryz.func89, Tryz.ntmps89
  by_cases hxn : ¬ xs.length = n
  · have e1 : ((xs.length : Int) != (n : Int)) = true := by simp; omega
    have HF : Hid (V = false) := by show _ = _; rw [← HV.out]; simp [hxn]
    clear hxn
    go_wp2_with fail
    go_ret
    exact ⟨by rw [HF.out]; rfl, HB0.out⟩
  obtain rfl : n = xs.length := by omega
  have e1 : ((xs.length : Int) != (xs.length : Int)) = false := by simp
  have HVT : Hid (V = tdy xs 0) := by show _ = _; rw [← HV.out]; simp
  clear hxn
  go_wp2_with fail
  generalize hW : w.alloc (.cells #[.int .i64 xs.length, .slice a l.length cap] 24) = W at *
  clear hW
  have hpz : p < W.heap.size := lt_of_block hg
  have HTD := Lib.hid (T3.rtidyI_any b xs.length bc xs (ldI xs) W hn (ldI_RT xs) rfl (fun u v _ _ => ldI_iff) HI.out)
  refine HTD.out.mono ?_
  rintro e w2 ⟨rfl, hown2, hb2⟩
  have HB2 : Hid (Below p w w2) := HB0.out.trans (hb2.mono hwz)
  have hg2 := (hb2.block p hpz).trans hg
  have HG2 := Lib.hid hg2
  have HI2 := Lib.hid (HI.out.on hb2)
  have HO2 := Lib.hid hown2
  have HTI := Lib.hid (tdy_iff xs)
  obtain ⟨ix, ox, hix⟩ := HI2.out.get
  have HIX := Lib.hid hix
  have hz2 : p < w2.heap.size := lt_of_block hg2
  clear hb2 hown2 hg hwz hix c0 c1 HTD hg2
  generalize hq : W.heap.size = q at *
  go_wp2_with fail
  go_loopw [6] (fun i wr => ∃ (k : Nat), k ≤ xs.length ∧ i = .int .i64 k ∧ Hid (∀ j, j < k → xs.getD j 0 = ((T3.lab (ldI xs) j : Nat) : Int)) ∧ Hid (Below w2.heap.size w2 wr)) (fun i _ => xs.length - (intOf i).toNat)
  case atStart => exact ⟨0, Nat.zero_le _, rfl, fun j hj => by omega, Below.refl _ _⟩
  case round =>
    obtain ⟨k, hk, rfl, HJ, HBR⟩ := hrel
    have hgr := (HBR.out.block p hz2).trans HG2.out
    obtain ⟨⟨c0, c1⟩, _⟩ := two_cells hgr
    by_cases hlk : k < xs.length
    · obtain ⟨rfl, hbl, hat⟩ := HIX.out (by omega)
      have hlk' : (k : Int) < xs.length := by omega
      have y0 := (HBR.out.cell (p := ⟨ix, ox + k, none⟩) hbl).trans (hat k hlk)
      have y1 := (HBR.out.cell (p := ⟨q, k, none⟩) HO2.out.lt).trans (HO2.out.cell (T3.labs_len _ _) k hlk)
      rw [T3.labs_getD _ _ k hlk] at y1
      have HBN : ∀ nq, Hid (Below w2.heap.size w2 (wr.drewN nq)) := fun _ => ⟨HBR.out.os, HBR.out.tape, HBR.out.output, HBR.out.size, HBR.out.block⟩
      have HBP : ∀ nq, Hid (Below p w (wr.drewN nq)) := fun nq => HB2.out.trans ((HBN nq).out.mono (by omega))
      clear hat
      by_cases hE : xs.getD k 0 = ((T3.lab (ldI xs) k : Nat) : Int)
      · have HJ2 : Hid (∀ j, j < k + 1 → xs.getD j 0 = ((T3.lab (ldI xs) j : Nat) : Int)) := fun j hj => by
          by_cases e : j = k
          · rw [e]; exact hE
          · exact HJ.out j (by omega)
        rw [hE] at y0
        clear hE HJ
        generalize T3.lab (ldI xs) k = z at *
        have e2 : ((z : Int) != (z : Int)) = false := by simp
        go_wp2_with fail
        go_quiet (fail)
        go_wp2_with fail
        exact ⟨⟨k + 1, by omega, by simp, HJ2, HBN _⟩, by simp [intOf]; omega⟩
      · have HF : Hid (V = false) := by
          show _ = _
          rw [HVT.out, Bool.eq_false_iff]
          intro h
          have h2 := HTI.out.1 h
          refine hE ?_
          have h3 : (T3.ints (T3.labs (ldI xs) xs.length)).getD k 0 = ((T3.lab (ldI xs) k : Nat) : Int) := by rw [T3.ints_getD, T3.labs_getD _ _ k hlk]
          rw [← h3, ← h2]
        have e2 : (((T3.lab (ldI xs) k : Nat) : Int) != xs.getD k 0) = true := by simp; exact fun h => hE h.symm
        clear hE HJ
        generalize T3.lab (ldI xs) k = z at *
        generalize xs.getD k 0 = y at *
        go_wp2_with fail
        go_quiet (fail)
        go_wp2_with fail
        go_ret
        exact ⟨by rw [HF.out]; rfl, (HBP _).out⟩
    · have hlk' : ¬ (k : Int) < xs.length := by omega
      have HF : Hid (V = true) := by
        show _ = _
        rw [HVT.out]
        exact HTI.out.2 (T3.ext_labs rfl (fun j hj => HJ.out j (by omega)))
      have HBP : Hid (Below p w wr) := HB2.out.trans (HBR.out.mono (by omega))
      go_wp2_with fail
      go_ret
      exact ⟨by rw [HF.out]; rfl, HBP.out⟩
set_option maxRecDepth 100000 in
set_option maxHeartbeats 1600000 in
theorem rsize_any (b : Option Addr) (xs : List Int) (bc : Nat) (w : World) (hxl : xs.length ≤ 1024) (hT : tdy xs 0 = true) (hi : Ints w b xs) :
    Calls Tryz.prog 91 #[.slice b xs.length bc] w fun e w' => ∃ v c, e = .returned (.slice v (szL xs).length c) ∧ w'.ownsRow w.heap.size 3 1 (.slice v (szL xs).length c) (szL xs).length (cellsI (ints (szL xs))) ∧ Below w.heap.size w w' := by
  obtain ⟨i3, hi3, hz3, hs3, hby3⟩ := info_parts info3
  obtain ⟨Z, HZ⟩ := named (szL xs)
  rw [HZ.out]
  obtain ⟨ix, ox, hix⟩ := hi.get
  have HIX := Lib.hid hix
  have HV := Lib.hid hT
  clear hi hix hT
  generalize hp : w.heap.size = p at *
  go_enter Tryz.func91, Tryz.ntmps91
  go_wp2_with fail
  go_loopw [3, 4] (fun s6 i wr => ∃ (k : Nat) (av : Option Addr) (cv : Nat) (S : List Nat), k ≤ xs.length ∧ i = .int .i64 k ∧ s6 = .slice av S.length cv ∧ S.length ≤ k ∧ Hid (szL (xs.take k) = S) ∧ Hid (tdy (xs.drop k) S.length = true) ∧ Hid (wr.ownsRow p 3 1 (.slice av S.length cv) S.length (cellsI (ints S))) ∧ Hid (Below p w wr)) (fun _ i _ => xs.length - (intOf i).toNat)
  case atStart => exact ⟨0, none, 0, [], Nat.zero_le _, rfl, rfl, Nat.zero_le _, rfl, HV, World.ownsRow_nil _ _ _ _, Below.refl _ _⟩
  case round =>
    obtain ⟨k, av, cv, S, hk, rfl, rfl, hSk, HS, HK, HOW, HBR⟩ := hrel
    have hwr : p ≤ wr.heap.size := hp ▸ HBR.out.size
    by_cases hlk : k < xs.length
    · obtain ⟨rfl, hbl, hat⟩ := HIX.out (by omega)
      have hlk' : (k : Int) < xs.length := by omega
      have HY0 := Lib.hid ((HBR.out.cell (p := ⟨ix, ox + k, none⟩) (hp ▸ hbl)).trans (hat k hlk))
      have hk2 := HK.out
      rw [drop_getI hlk] at hk2
      simp only [tdy] at hk2
      have HK2 := Lib.hid hk2
      have HSN : Hid (szL (xs.take (k + 1)) = szS S (xs.getD k 0).toNat) := by show _ = _; rw [take_snocI hlk, szL_snoc, HS.out]
      clear hat hk2
      generalize xs.getD k 0 = x at *
      have hx0 : ¬ (x < 0 ∨ (S.length : Int) < x) := fun h => by have h1 := HK2.out; rw [if_pos h] at h1; cases h1
      rw [if_neg hx0] at HK2
      obtain ⟨y, hy⟩ : ∃ y : Nat, x = y := ⟨x.toNat, by omega⟩
      subst hy
      have hyS : y ≤ S.length := by omega
      clear hx0
      rw [Int.toNat_natCast] at HSN
      have y0 := HY0.out
      by_cases h2 : y = S.length
      · subst h2
        have hq : ((S.length : Int) == (S.length : Int)) = true := by simp
        have HNS : Hid (szS S S.length = S ++ [1]) := if_pos rfl
        rw [HNS.out] at HSN
        rw [if_pos rfl] at HK2
        have HK3 : Hid (tdy (xs.drop (k + 1)) (((S ++ [1]).length : Nat) : Int) = true) := by
          have h3 := HK2.out
          rw [show ((S.length : Int) + 1) = (((S ++ [1]).length : Nat) : Int) by rw [List.length_append]; rfl] at h3
          exact h3
        have HNW := Lib.hid (one_new wr 0)
        have HO2 := Lib.hid (HOW.out.alloc (.cells #[.int .i64 0] 3))
        have HBZ : Hid (p ≤ (wr.alloc (.cells #[.int .i64 0] 3)).heap.size) := by show _ ≤ _; rw [World.size_alloc]; omega
        have HBB : Hid (Below p w (wr.alloc (.cells #[.int .i64 0] 3))) := HBR.out.alloc (by omega) _
        have HOL : Hid (∀ b, (Value.slice av S.length cv).ownBlock = some b → p ≤ b) := fun b hb => (HOW.out.lt b hb).1
        have HCA : Hid (cellsI (ints S) ++ [.int .i64 0] = cellsI (ints (S ++ [0]))) := by show _ = _; rw [ints_snoc, ← cellsI_snoc]; rfl
        have hs8 : S.length ≤ 1024 := by omega
        have hblp : ix < p := hp ▸ hbl
        go_wp2_with (at_builtin; refine wpList_append_own _ rfl (.tmp 18) (.tmp 19) 25 rfl p 3 i3 (.int .i64 0) 1 8 Tryz.underlying25 hi3 hz3 hs3 hby3 rfl (by decide) (.slice av S.length cv) S.length (cellsI (ints S)) rfl HO2.out ⟨wr.heap.size, 0, none⟩ 1 1 [.int .i64 0] rfl rfl HNW.out (one_i64 _) (by unfold maxLen; omega) (by omega) HBZ.out ?_; intro v6 w6 hown6 hgrow6 hnil6; obtain ⟨g6, c6, hv6, _, hc6, _, hm6⟩ := own_shape hown6 (fun e => by have := hnil6.1 e; simp at this); subst hv6; rw [HCA.out] at hown6; have h7 : w6.ownsRow p 3 1 (.slice (some ⟨g6, 0, none⟩) (S ++ [0]).length c6) (S ++ [0]).length (cellsI (ints (S ++ [0]))) := (by rw [List.length_append]; exact hown6); have d1 := own_cellI h7 (k := S.length) (by rw [List.length_append]; simp); have d2 := World.ownsRow.frozenAt h7 S.length; rw [getD_end S 0] at d1; have HO7 := Lib.hid (own_setI h7 S.length 1); have HB6 : Hid (Below p w w6) := HBB.out.grown hgrow6 HBZ.out (fun j hj => HOL.out j hj); have hg6 : p ≤ g6 := (h7.lt g6 rfl).1; have hc6' : ((S.length : Int) + 1) ≤ c6 := (by omega); have z0 := (HB6.out.cell (p := ⟨ix, ox + k, none⟩) hblp).trans ((HBR.out.cell (p := ⟨ix, ox + k, none⟩) hblp).symm.trans HY0.out); clear hown6 hgrow6 hnil6 h7 y0)
        rw [set_end S 0 1] at HO7
        refine ⟨⟨k + 1, some ⟨g6, 0, none⟩, c6, S ++ [1], by omega, by simp, by rw [List.length_append]; rfl, by rw [List.length_append]; simp; omega, HSN, HK3, HO7, Lib.hid (HB6.out.setCell hg6 _)⟩, by simp [intOf]; omega⟩
      · have hq : ((y : Int) == (S.length : Int)) = false := by simp; omega
        have hy : y < S.length := by omega
        have hy' : (y : Int) < S.length := by omega
        have HNS : Hid (szS S y = S.set y (S.getD y 0 + 1)) := if_neg h2
        rw [HNS.out] at HSN
        rw [if_neg (by omega)] at HK2
        have HK3 : Hid (tdy (xs.drop (k + 1)) (((S.set y (S.getD y 0 + 1)).length : Nat) : Int) = true) := by rw [List.length_set]; exact HK2
        obtain ⟨g, cg, hv, hg1, _, _, _⟩ := own_shape HOW.out (fun e => by injection e with _ e2 _; omega)
        injection hv with hv1 _ hv3
        subst hv1 hv3
        have d1 := own_cellI HOW.out hy
        have d2 := World.ownsRow.frozenAt HOW.out y
        have HO7 := Lib.hid (own_setI HOW.out y (S.getD y 0 + 1))
        have hsz : (((S.getD y 0 : Nat) : Int) + 1) ≤ 1000000 := by
          have h3 := szL_le (xs.take k) y
          rw [HS.out, List.length_take] at h3
          omega
        generalize S.getD y 0 = sy at *
        clear h2
        go_wp2_with fail
        refine ⟨⟨k + 1, some ⟨g, 0, none⟩, cv, S.set y (sy + 1), by omega, by simp, by rw [List.length_set], by rw [List.length_set]; omega, HSN, HK3, ?_, Lib.hid (HBR.out.setCell hg1 _)⟩, by simp [intOf]; omega⟩
        exact HO7
    · have e2 : xs.take k = xs := List.take_of_length_le (by omega)
      have hlk' : ¬ (k : Int) < xs.length := by omega
      rw [e2, HZ.out] at HS
      obtain rfl : Z = S := HS.out
      clear e2
      go_wp2_with fail
      go_ret
      exact ⟨av, cv, rfl, HOW.out, HBR.out⟩
end Go.Proofs.YtpmjbeiclmllmaaGreat
namespace Go.Proofs.YtpmjbeiclmllmaaGreat
open Go.RowKit
/-- The greatest number, or 0. -/
def gmx (xs : List Int) : Int := xs.foldl max 0
theorem gmx_snoc (xs : List Int) (x : Int) : gmx (xs ++ [x]) = max (gmx xs) x := by simp [gmx]
theorem gmx_take {xs : List Int} {k : Nat} (h : k < xs.length) : gmx (xs.take (k + 1)) = max (gmx (xs.take k)) (xs.getD k 0) := by rw [take_snocI h, gmx_snoc]
theorem gmx_le (xs : List Int) (b : Int) : gmx xs ≤ b ↔ 0 ≤ b ∧ ∀ j, j < xs.length → xs.getD j 0 ≤ b := by
  have : ∀ k, k ≤ xs.length → (gmx (xs.take k) ≤ b ↔ 0 ≤ b ∧ ∀ j, j < k → xs.getD j 0 ≤ b) := by
    intro k
    induction k with
    | zero => intro _; simp [gmx]
    | succ k ih =>
      intro hk
      rw [gmx_take (by omega)]
      have ih := ih (by omega)
      constructor
      · intro h
        have h1 := ih.1 (by omega)
        refine ⟨h1.1, fun j hj => ?_⟩
        rcases Nat.lt_or_ge j k with h2 | h2
        · exact h1.2 j h2
        · have e : j = k := by omega
          rw [e]
          omega
      · rintro ⟨h1, h2⟩
        have h3 := ih.2 ⟨h1, fun j hj => h2 j (by omega)⟩
        have h4 := h2 k (by omega)
        omega
  have h := this xs.length (Nat.le_refl _)
  rw [List.take_length] at h
  exact h
set_option maxRecDepth 100000 in
set_option maxHeartbeats 1600000 in
theorem greatest_any (a : Option Addr) (xs : List Int) (c : Nat) (w : World) (hx : xs.length ≤ 9223372036854775807) (hi : Ints w a xs) :
    Calls Tryz.prog 90 #[.slice a xs.length c] w fun e w' => e = .returned (.int .i64 (gmx xs)) ∧ w' = w := by
  obtain ⟨ix, ox, hix⟩ := hi.get
  have HIX := Lib.hid hix
  clear hi hix
  obtain ⟨R, HR⟩ := named (gmx xs)
  rw [HR.out]
  go_enter Tryz.func90, Tryz.ntmps90
  go_wp2_with fail
  go_loop [3, 4] (fun s i => ∃ (k : Nat) (m : Int), k ≤ xs.length ∧ i = .int .i64 k ∧ s = .int .i64 m ∧ Hid (gmx (xs.take k) = m)) (fun _ i => xs.length - (intOf i).toNat)
  case atStart => exact ⟨0, 0, Nat.zero_le _, rfl, rfl, by show _ = _; simp [gmx]⟩
  case round =>
    obtain ⟨k, m, hk, rfl, rfl, HK⟩ := hrel
    by_cases hlk : k < xs.length
    · obtain ⟨rfl, hbl, hat⟩ := HIX.out (by omega)
      have hlk' : (k : Int) < xs.length := by omega
      have y0 := hat k hlk
      have HT := Lib.hid (gmx_take hlk)
      generalize xs.getD k 0 = y at *
      rw [HK.out] at HT
      clear hat
      by_cases h : m < y
      · have e1 : max m y = y := by omega
        have e2 : ¬ y ≤ m := by omega
        have e3 : (if m < y then y else m) = y := if_pos h
        have e4 : (if y < m then m else y) = y := if_neg (by omega)
        have HT2 : Hid (gmx (xs.take (k + 1)) = y) := by show _ = _; rw [HT.out, e1]
        go_wp2_with fail
        exact ⟨⟨k + 1, y, by omega, by simp, rfl, HT2⟩, by simp [intOf]; omega⟩
      · have e1 : max m y = m := by omega
        have e2 : y ≤ m := by omega
        have e3 : (if m < y then y else m) = m := if_neg h
        have e4 : (if y < m then m else y) = m := by split <;> omega
        have HT2 : Hid (gmx (xs.take (k + 1)) = m) := by show _ = _; rw [HT.out, e1]
        go_wp2_with fail
        exact ⟨⟨k + 1, m, by omega, by simp, rfl, HT2⟩, by simp [intOf]; omega⟩
    · have hlk' : ¬ (k : Int) < xs.length := by omega
      obtain rfl : m = R := by
        have h := HK.out
        rw [List.take_of_length_le (by omega)] at h
        rw [← h, HR.out]
      go_wp2_with fail
      go_ret
      exact ⟨rfl, rfl⟩
set_option maxRecDepth 100000 in
set_option maxHeartbeats 1600000 in
theorem nested_any (a : Option Addr) (xs : List Int) (c : Nat) (b : Option Addr) (ys : List Int) (d : Nat) (w : World) (hx : xs.length ≤ 1024) (hxy : xs.length ≤ ys.length) (hy : ys.length ≤ 1024) (hi : Ints w a xs) (hj : Ints w b ys) :
    Calls Tryz.prog 92 #[.slice a xs.length c, .slice b ys.length d] w fun e w' => e = .returned (.bool (decide (Nst xs ys))) ∧ Below w.heap.size w w' := by
  obtain ⟨ix, ox, hix⟩ := hi.get
  obtain ⟨iy, oy, hiy⟩ := hj.get
  have HIX := Lib.hid hix
  have HIY := Lib.hid hiy
  clear hi hix hj hiy
  obtain ⟨R, HR⟩ := named (decide (Nst xs ys))
  rw [HR.out]
  generalize hp : w.heap.size = p at *
  go_enter Tryz.func92, Tryz.ntmps92
  go_wp2_with fail
  go_loopw [5] (fun i wr => ∃ (v : Nat), v ≤ xs.length ∧ i = .int .i64 v ∧ Hid (∀ x, x < v → ∀ u, u < x → xs.getD u 0 = xs.getD x 0 → ys.getD u 0 = ys.getD x 0) ∧ Hid (Below p w wr)) (fun i _ => xs.length - (intOf i).toNat)
  case atStart => exact ⟨0, Nat.zero_le _, rfl, fun x hx => absurd hx (by omega), Below.refl _ _⟩
  case round =>
    obtain ⟨v, hv, rfl, HV, HBR⟩ := hrel
    by_cases hlv : v < xs.length
    · have hlv' : (v : Int) < xs.length := by omega
      have hlv2 : (v : Int) < ys.length := by omega
      go_wp2_with fail
      go_loopw [6] (fun i wr => ∃ (u : Nat), u ≤ v ∧ i = .int .i64 u ∧ Hid (∀ t, t < u → xs.getD t 0 = xs.getD v 0 → ys.getD t 0 = ys.getD v 0) ∧ Hid (Below p w wr)) (fun i _ => v - (intOf i).toNat)
      case atStart => exact ⟨0, Nat.zero_le _, rfl, fun t ht => absurd ht (by omega), HBR⟩
      case round =>
        clear HBR
        obtain ⟨u, hu, rfl, HU, HBR⟩ := hrel
        by_cases hlu : u < v
        · have hlu' : (u : Int) < v := by omega
          have hlu2 : (u : Int) < xs.length := by omega
          have hlu3 : (u : Int) < ys.length := by omega
          obtain ⟨rfl, hbl, hat⟩ := HIX.out (by omega)
          obtain ⟨rfl, hbl2, hat2⟩ := HIY.out (by omega)
          have y0 := (HBR.out.cell (p := ⟨ix, ox + u, none⟩) (hp ▸ hbl)).trans (hat u (by omega))
          have y1 := (HBR.out.cell (p := ⟨ix, ox + v, none⟩) (hp ▸ hbl)).trans (hat v (by omega))
          have y2 := (HBR.out.cell (p := ⟨iy, oy + u, none⟩) (hp ▸ hbl2)).trans (hat2 u (by omega))
          have y3 := (HBR.out.cell (p := ⟨iy, oy + v, none⟩) (hp ▸ hbl2)).trans (hat2 v (by omega))
          have HBN : Hid (∀ q, Below p w (wr.drewN q)) := fun q => HBR.out.trans (below_drewN _ _ q)
          clear hat hat2
          obtain ⟨xu, HXU⟩ := named (xs.getD u 0)
          obtain ⟨xv, HXV⟩ := named (xs.getD v 0)
          obtain ⟨yu, HYU⟩ := named (ys.getD u 0)
          obtain ⟨yv, HYV⟩ := named (ys.getD v 0)
          rw [HXU.out] at y0
          rw [HXV.out] at y1
          rw [HYU.out] at y2
          rw [HYV.out] at y3
          by_cases h1 : xu = xv
          · have e1 : (xu == xv) = true := by simpa using h1
            by_cases h2 : yu = yv
            · have e2 : (yu != yv) = false := by simpa using h2
              have HU2 : Hid (∀ t, t < u + 1 → xs.getD t 0 = xs.getD v 0 → ys.getD t 0 = ys.getD v 0) := fun t ht h => by
                rcases Nat.lt_or_ge t u with h3 | h3
                · exact HU.out t h3 h
                · have e : t = u := by omega
                  rw [e, HYU.out, HYV.out, h2]
              clear h1 h2
              go_wp2_with fail
              go_quiet (fail)
              have HBN1 := Lib.hid (HBN.out nq)
              go_wp2_with fail
              exact ⟨⟨u + 1, by omega, by simp, HU2, HBN1⟩, by simp [intOf]; omega⟩
            · have e2 : (yu != yv) = true := by simpa using h2
              obtain rfl : R = false := by
                rw [← HR.out]
                exact decide_eq_false (fun h => h2 (by rw [← HYU.out, ← HYV.out]; exact h u (by omega) v hlv (by rw [HXU.out, HXV.out, h1])))
              clear h1 h2
              go_wp2_with fail
              go_quiet (fail)
              have HBN1 := Lib.hid (HBN.out nq)
              go_wp2_with fail
              go_ret
              exact ⟨rfl, HBN1.out⟩
          · have e1 : (xu == xv) = false := by simpa using h1
            have HU2 : Hid (∀ t, t < u + 1 → xs.getD t 0 = xs.getD v 0 → ys.getD t 0 = ys.getD v 0) := fun t ht h => by
              rcases Nat.lt_or_ge t u with h3 | h3
              · exact HU.out t h3 h
              · have e : t = u := by omega
                rw [e, HXU.out, HXV.out] at h
                exact absurd h h1
            clear h1
            go_wp2_with fail
            go_quiet (fail)
            have HBN1 := Lib.hid (HBN.out nq)
            go_wp2_with fail
            exact ⟨⟨u + 1, by omega, by simp, HU2, HBN1⟩, by simp [intOf]; omega⟩
        · have hlu' : ¬ (u : Int) < v := by omega
          have HV2 : Hid (∀ x, x < v + 1 → ∀ u, u < x → xs.getD u 0 = xs.getD x 0 → ys.getD u 0 = ys.getD x 0) := fun x hx t ht h => by
            rcases Nat.lt_or_ge x v with h3 | h3
            · exact HV.out x h3 t ht h
            · have e : x = v := by omega
              rw [e] at h ⊢
              exact HU.out t (by omega) h
          go_wp2_with fail
          exact ⟨⟨v + 1, by omega, by simp, HV2, HBR⟩, by simp [intOf]; omega⟩
    · have hlv' : ¬ (v : Int) < xs.length := by omega
      obtain rfl : R = true := by
        rw [← HR.out]
        refine decide_eq_true (fun u hu x hx h => ?_)
        rcases Nat.lt_trichotomy u x with h3 | h3 | h3
        · exact HV.out x (by omega) u h3 h
        · rw [h3]
        · exact (HV.out u (by omega) x h3 h.symm).symm
      go_wp2_with fail
      go_ret
      exact ⟨rfl, HBR.out⟩
set_option maxRecDepth 100000 in
set_option maxHeartbeats 1600000 in
theorem sameNest_any (ba ba' : Option Addr) (bs : List Int) (bc bc' : Nat) (ca ca' : Option Addr) (C C' : List Cl) (cc cc' : Nat) (w : World) (hbl : bs.length ≤ 9223372036854775807) (hCl : C.length ≤ 9223372036854775807) (hL : C'.length = C.length) (hE : csl C' = csl C) (hi : Ints w ba bs) (hR : Rws w ca C) (hi' : Ints w ba' bs) (hR' : Rws w ca' C') :
    Calls Tryz.prog 17 #[.agg #[.slice ba bs.length bc, .slice ca C.length cc], .agg #[.slice ba' bs.length bc', .slice ca' C'.length cc']] w fun e w' => e = .returned (.bool true) ∧ Below w.heap.size w w' := by
  obtain ⟨hg0, hg1, hb0, hsz⟩ := top2 w (.cells #[.slice ba bs.length bc, .slice ca C.length cc] 28) (.cells #[.slice ba' bs.length bc', .slice ca' C'.length cc'] 28)
  have HSI := Lib.hid (sameInts_any ba ba' bc bc' bs _ hbl (hi.on hb0) (hi'.on hb0))
  have HR := Lib.hid hR
  have HR' := Lib.hid hR'
  have HEE := Lib.hid hE
  have HB0 := Lib.hid hb0
  have HG0 := Lib.hid hg0
  have HG1 := Lib.hid hg1
  obtain ⟨⟨a0, a1⟩, _⟩ := two_cells hg0
  obtain ⟨⟨a2, a3⟩, _⟩ := two_cells hg1
  rw [hL] at HSI HB0 HG0 HG1 a0 a1 a2 a3 hsz
  rw [hL]
  have HLL := Lib.hid hL
  clear hi hi' hR hR' hE hg0 hg1 hb0 hL
  generalize hp : w.heap.size = p at *
  go_enter Tryz.func17, Tryz.ntmps17
  go_wp2_with fail
  generalize hW : (w.alloc (.cells #[.slice ba bs.length bc, .slice ca C.length cc] 28)).alloc (.cells #[.slice ba' bs.length bc', .slice ca' C.length cc'] 28) = W at *
  clear hW
  refine HSI.out.mono ?_
  rintro e w1 ⟨rfl, hb1⟩
  have HB1 := Lib.hid hb1
  have HK0 := Lib.hid ((hb1.block p (by omega)).trans HG0.out)
  have HK1 := Lib.hid ((hb1.block (p + 1) (by omega)).trans HG1.out)
  have hw1 : p + 2 ≤ w1.heap.size := by have := hb1.size; omega
  clear a0 a1 a2 a3 HSI hb1 HG0 HG1
  obtain ⟨⟨a0, a1⟩, _⟩ := two_cells HK0.out
  obtain ⟨⟨a2, a3⟩, _⟩ := two_cells HK1.out
  have hne : ((C.length : Int) != C.length) = false := by simp
  obtain ⟨bx, ox, hbx⟩ := HR.out.get
  obtain ⟨by', oy, hby⟩ := HR'.out.get
  have HBX := Lib.hid hbx
  have HBY := Lib.hid hby
  have HBW : Hid (Below p w w1) := HB0.out.trans (HB1.out.mono (by omega))
  clear hbx hby
  go_wp2_with fail
  clear a0 a1 a2 a3
  go_loopw [5] (fun i wr => ∃ (k : Nat), k ≤ C.length ∧ i = .int .i64 k ∧ Hid (Below w1.heap.size w1 wr)) (fun i _ => C.length - (intOf i).toNat)
  case atStart => exact ⟨0, Nat.zero_le _, rfl, Below.refl _ _⟩
  case round =>
    obtain ⟨k, hk, rfl, HBR⟩ := hrel
    obtain ⟨⟨a0, a1⟩, _⟩ := two_cells ((HBR.out.block p (by omega)).trans HK0.out)
    obtain ⟨⟨a2, a3⟩, _⟩ := two_cells ((HBR.out.block (p + 1) (by omega)).trans HK1.out)
    by_cases hlk : k < C.length
    · have hlk' : (k : Int) < C.length := by omega
      have hk0 : (0 : Int) ≤ k := by omega
      obtain ⟨rfl, hbl1, hcell⟩ := HBX.out (by omega)
      obtain ⟨rfl, hbl2, hcell2⟩ := HBY.out (by rw [HLL.out]; omega)
      have hbw : Below p w wr := HBW.out.trans (HBR.out.mono (by omega))
      have d0 := (hbw.cell (p := ⟨bx, ox + k, none⟩) (hp ▸ hbl1)).trans (hcell k hlk)
      have d1 := (hbw.cell (p := ⟨by', oy + k, none⟩) (hp ▸ hbl2)).trans (hcell2 k (by rw [HLL.out]; exact hlk))
      have exs : (cl C' k).xs = (cl C k).xs := by
        have := congrArg (fun cs => lvl cs k) HEE.out
        simp only [csl_at] at this
        exact this
      unfold Cl.val at d0 d1
      have hi0 := (HR.out.2 k hlk).1.on (hp ▸ hbw)
      have hi1 := (HR'.out.2 k (by rw [HLL.out]; exact hlk)).1.on (hp ▸ hbw)
      have hxl := (HR.out.2 k hlk).2
      rw [exs] at d1 hi1
      obtain ⟨xs, HXS⟩ := named (cl C k).xs
      rw [HXS.out] at d0 d1 hi0 hi1 hxl
      generalize (cl C k).a = ra at *
      generalize (cl C' k).a = rb at *
      generalize (cl C k).c = rc at *
      generalize (cl C' k).c = rd at *
      have HBD : Hid (Below wr.heap.size wr wr.drew) := (Below.refl _ _).drew
      have HSA := Lib.hid (sameInts_any ra rb rc rd xs wr.drew hxl (hi0.on HBD.out) (hi1.on HBD.out))
      have A1 := Lib.hid a1
      have A3 := Lib.hid a3
      have D0 := Lib.hid d0
      have D1 := Lib.hid d1
      have hwr : w1.heap.size ≤ wr.heap.size := HBR.out.size
      have hpw := hbw.size
      clear hcell hcell2 hi0 hi1 exs hbw
      go_wp2_with fail
      go_region_held3 (fun w' => w'.cell? ⟨p, 1, none⟩ = some (.slice (some ⟨bx, ox, none⟩) C.length cc) ∧ w'.cell? ⟨p + 1, 1, none⟩ = some (.slice (some ⟨by', oy, none⟩) C.length cc') ∧ w'.cell? ⟨bx, ox + k, none⟩ = some (.slice ra xs.length rc) ∧ w'.cell? ⟨by', oy + k, none⟩ = some (.slice rb xs.length rd)) (go_keep) ((go_at_call 41; refine HSA.out.mono ?_; rintro e w2 ⟨rfl, hb2⟩; have hb2 := HBD.out.trans hb2; have v0 := (hb2.cell (p := ⟨p, 1, none⟩) (by show p < _; omega)).trans A1.out; have v1 := (hb2.cell (p := ⟨p + 1, 1, none⟩) (by show p + 1 < _; omega)).trans A3.out; have v2 := (hb2.cell (p := ⟨bx, ox + k, none⟩) (by show bx < _; omega)).trans D0.out; have v3 := (hb2.cell (p := ⟨by', oy + k, none⟩) (by show by' < _; omega)).trans D1.out; have HB2 := Lib.hid hb2; clear hb2))
      have HBE : Hid (Below w1.heap.size w1 w2) := HBR.out.trans (HB2.out.mono hwr)
      clear a0 a1 a2 a3 d0 d1 v0 v1 v2 v3
      go_wp2_with fail
      exact ⟨⟨k + 1, by omega, by simp, HBE⟩, by simp [intOf]; omega⟩
    · have hlk' : ¬ (k : Int) < C.length := by omega
      have HBF : Hid (Below p w wr) := HBW.out.trans (HBR.out.mono (by omega))
      go_wp2_with fail
      go_ret
      exact ⟨rfl, HBF.out⟩
end Go.Proofs.YtpmjbeiclmllmaaGreat
namespace Go.Proofs.YtpmjbeiclmllmaaGreat
open Go.RowKit
/-- A graph and a nest as they lie in the law's variables. -/
structure GN (w : World) (p : Nat) (N : Int) (a : Option Addr) (l : List A) (cap : Nat) (ba : Option Addr) (bs : List Int) (bc : Nat) (ca : Option Addr) (C : List Cl) (cc : Nat) : Prop where
  g : w.heap[p]? = some (.cells #[.int .i64 N, .slice a l.length cap] 24)
  n : w.heap[p + 1]? = some (.cells #[.slice ba bs.length bc, .slice ca C.length cc] 28)
  arcs : Arcs w a l
  ints : Ints w ba bs
  rws : Rws w ca C
theorem GN.on {w w' : World} {p : Nat} {N : Int} {a : Option Addr} {l : List A} {cap : Nat} {ba : Option Addr} {bs : List Int} {bc : Nat} {ca : Option Addr} {C : List Cl} {cc : Nat} (h : GN w p N a l cap ba bs bc ca C cc) (hb : Below w.heap.size w w') : GN w' p N a l cap ba bs bc ca C cc :=
  ⟨(hb.block _ (lt_of_block h.g)).trans h.g, (hb.block _ (lt_of_block h.n)).trans h.n, h.arcs.on hb, h.ints.on hb, h.rws.on hb⟩
theorem GN.cells {w : World} {p : Nat} {N : Int} {a : Option Addr} {l : List A} {cap : Nat} {ba : Option Addr} {bs : List Int} {bc : Nat} {ca : Option Addr} {C : List Cl} {cc : Nat} (h : GN w p N a l cap ba bs bc ca C cc) : w.cell? ⟨p, 0, none⟩ = some (.int .i64 N) ∧ w.cell? ⟨p, 1, none⟩ = some (.slice a l.length cap) ∧ w.cell? ⟨p + 1, 0, none⟩ = some (.slice ba bs.length bc) ∧ w.cell? ⟨p + 1, 1, none⟩ = some (.slice ca C.length cc) := by
  obtain ⟨⟨g0, g1⟩, _⟩ := two_cells h.g
  obtain ⟨⟨g2, g3⟩, _⟩ := two_cells h.n
  exact ⟨g0, g1, g2, g3⟩
end Go.Proofs.YtpmjbeiclmllmaaGreat
namespace Go.Proofs.YtpmjbeiclmllmaaGreat
open Go.RowKit
/-- The bound and the labels below a level. -/
def pb (bs : List Int) (k : Nat) : Int := if k = 0 then 0 else bs.getD (k - 1) 0
def pl (cs : List (List Int)) (k : Nat) : List Int := if k = 0 then [] else lvl cs (k - 1)
theorem pb_succ (bs : List Int) (k : Nat) : pb bs (k + 1) = bs.getD k 0 := by simp [pb]
theorem pl_succ (cs : List (List Int)) (k : Nat) : pl cs (k + 1) = lvl cs k := by simp [pl]
theorem nst_nil (xs : List Int) : Nst [] xs := fun u hu => absurd hu (by simp)
theorem gm_wd {S : List Nat} {b : Int} (hb : 1 ≤ b) : gmx (ints S) ≤ b ↔ wdB S b = true := by
  rw [gmx_le]
  unfold wdB
  rw [decide_eq_true_eq]
  constructor
  · rintro ⟨_, h⟩ j hj
    have := h j (by rw [ints_len]; exact hj)
    rw [ints_getD hj] at this
    exact this
  · intro h
    refine ⟨by omega, fun j hj => ?_⟩
    rw [ints_len] at hj
    rw [ints_getD hj]
    exact h j hj
theorem nx80 {N bb : Int} {ys : List Int} {b : Int} {xs : List Int} (h1 : bb < b ∧ b ≤ 1024) (h2 : (xs.length : Int) ≠ N ∨ tdy xs 0 = false) : nxE N bb ys b xs = 80 := by
  have e : szE N xs = 80 := by unfold szE; rw [if_pos h2]
  unfold nxE
  rw [if_neg (fun h => h h1), e, if_pos (by decide)]
theorem nx90 {N bb : Int} {ys : List Int} {b : Int} {xs : List Int} (h1 : bb < b ∧ b ≤ 1024) (h2 : (xs.length : Int) = N) (h3 : tdy xs 0 = true) (h4 : wdB (szL xs) b = false) : nxE N bb ys b xs = 90 := by
  have e : szE N xs = 0 := by unfold szE; rw [if_neg (by rw [h3]; simp [h2])]
  unfold nxE
  rw [if_neg (fun h => h h1), e, if_neg (by simp), if_pos h4]
theorem nx110 {N bb : Int} {ys : List Int} {b : Int} {xs : List Int} (h1 : bb < b ∧ b ≤ 1024) (h2 : (xs.length : Int) = N) (h3 : tdy xs 0 = true) (h4 : wdB (szL xs) b = true) (h5 : ¬ Nst ys xs) : nxE N bb ys b xs = 110 := by
  have e : szE N xs = 0 := by unfold szE; rw [if_neg (by rw [h3]; simp [h2])]
  unfold nxE
  rw [if_neg (fun h => h h1), e, if_neg (by simp), h4, if_neg (by simp), if_pos h5]
theorem nx0 {N bb : Int} {ys : List Int} {b : Int} {xs : List Int} (h1 : bb < b ∧ b ≤ 1024) (h2 : (xs.length : Int) = N) (h3 : tdy xs 0 = true) (h4 : wdB (szL xs) b = true) (h5 : Nst ys xs) : nxE N bb ys b xs = 0 := by
  have e : szE N xs = 0 := by unfold szE; rw [if_neg (by rw [h3]; simp [h2])]
  unfold nxE
  rw [if_neg (fun h => h h1), e, if_neg (by simp), h4, if_neg (by simp), if_neg (fun h => h h5)]
set_option maxRecDepth 100000 in
set_option maxHeartbeats 6400000 in
theorem rnck_any (N : Int) (a : Option Addr) (l : List A) (cap : Nat) (ba : Option Addr) (bs : List Int) (bc : Nat) (ca : Option Addr) (C : List Cl) (cc : Nat) (w : World) (hl : l.length ≤ 9223372036854775807) (hbl : bs.length ≤ 9223372036854775807) (hr : Arcs w a l) (hi : Ints w ba bs) (hR : Rws w ca C) :
    Calls Tryz.prog 50 #[.agg #[.int .i64 N, .slice a l.length cap], .agg #[.slice ba bs.length bc, .slice ca C.length cc]] w fun e w' => e = .returned (.tuple #[.int .i64 (nsW N l bs (csl C) : Nat), .int .i64 (nsE N l bs (csl C))]) ∧ Below w.heap.size w w' := by
  obtain ⟨hg0, hg1, hb0, hsz⟩ := top2 w (.cells #[.int .i64 N, .slice a l.length cap] 24) (.cells #[.slice ba bs.length bc, .slice ca C.length cc] 28)
  have HGN0 : Hid (GN ((w.alloc (.cells #[.int .i64 N, .slice a l.length cap] 24)).alloc (.cells #[.slice ba bs.length bc, .slice ca C.length cc] 28)) w.heap.size N a l cap ba bs bc ca C cc) := ⟨hg0, hg1, hr.on hb0, hi.on hb0, hR.on hb0⟩
  have HB0 := Lib.hid hb0
  obtain ⟨E, HE⟩ := named (nsE N l bs (csl C))
  obtain ⟨Q, HQ⟩ := named (nsW N l bs (csl C))
  rw [HE.out, HQ.out]
  generalize hp : w.heap.size = p at *
  go_enter Tryz.func50, Tryz.ntmps50
  obtain ⟨g0, g1, g2, g3⟩ := HGN0.out.cells
  go_wp2_with fail
  generalize hW : (w.alloc (.cells #[.int .i64 N, .slice a l.length cap] 24)).alloc (.cells #[.slice ba bs.length bc, .slice ca C.length cc] 28) = W at *
  clear hW hg0 hg1 hb0 hr hi hR
  have HCK := Lib.hid (rcheck_any N a l cap W hl HGN0.out.arcs)
  obtain ⟨ce, HCE⟩ := named (chkE N l)
  generalize chkAt N l = ca0 at *
  rw [HCE.out] at HCK
  refine HCK.out.mono ?_
  rintro e w1 ⟨rfl, hb1⟩
  have HB1 := Lib.hid hb1
  have HEND : Hid (∀ wr, Below W.heap.size W wr → Below p w wr) := fun wr h => HB0.out.trans (h.mono (by omega))
  clear hb1 HCK g0 g1 g2 g3
  by_cases hce : ce = 0
  rotate_left
  · have e1 : (ce != 0) = true := by simpa using hce
    obtain rfl : E = ce := by rw [← HE.out]; unfold nsE; rw [if_pos (by rw [HCE.out]; exact hce), HCE.out]
    obtain rfl : Q = 0 := by rw [← HQ.out]; unfold nsW; rw [if_pos (by rw [HCE.out]; exact hce)]
    go_wp2_with fail
    go_ret2
    exact ⟨rfl, HEND.out _ HB1.out⟩
  subst hce
  have HGN1 := Lib.hid (HGN0.out.on HB1.out)
  obtain ⟨g0, g1, g2, g3⟩ := HGN1.out.cells
  by_cases hcond : ¬ (1 ≤ bs.length ∧ bs.length ≤ 5) ∨ C.length ≠ bs.length
  · obtain rfl : E = 111 := by rw [← HE.out]; unfold nsE; rw [if_neg (by rw [HCE.out]; simp), csl_len, if_pos hcond]
    obtain rfl : Q = 0 := by rw [← HQ.out]; unfold nsW; rw [if_neg (by rw [HCE.out]; simp), csl_len, if_pos hcond]
    by_cases c1 : bs.length < 1
    · have c1' : (bs.length : Int) < 1 := by omega
      go_wp2_with fail
      go_ret2
      exact ⟨rfl, HEND.out _ HB1.out⟩
    · have c1' : ¬ (bs.length : Int) < 1 := by omega
      by_cases c2 : 5 < bs.length
      · have c2' : (5 : Int) < bs.length := by omega
        go_wp2_with fail
        go_ret2
        exact ⟨rfl, HEND.out _ HB1.out⟩
      · have c2' : ¬ (5 : Int) < bs.length := by omega
        have c3 : ((C.length : Int) != bs.length) = true := by simp; omega
        go_wp2_with fail
        go_ret2
        exact ⟨rfl, HEND.out _ HB1.out⟩
  have hb5 : 1 ≤ bs.length ∧ bs.length ≤ 5 := by omega
  have hCb : C.length = bs.length := by omega
  have c1' : ¬ (bs.length : Int) < 1 := by omega
  have c2' : ¬ (5 : Int) < bs.length := by omega
  have c3 : ((C.length : Int) != bs.length) = false := by simp; omega
  have HEl : Hid ((lkE N bs (csl C) 0 0 []) = (Q, E)) := by
    show _ = _
    rw [← HE.out, ← HQ.out]
    unfold nsE nsW
    rw [if_neg (by rw [HCE.out]; simp), csl_len, if_neg hcond, if_neg (by rw [HCE.out]; simp), if_neg hcond]
  obtain ⟨n, hn⟩ : ∃ n : Nat, N = n := ⟨N.toNat, by have := (chk_zero HCE.out).1; omega⟩
  have hn8 : n ≤ 1024 := by have := (chk_zero HCE.out).2.1; omega
  have HHN := Lib.hid hn
  have HCB := Lib.hid hCb
  have hC5 : C.length ≤ 5 := by omega
  clear hcond hCb hn
  go_wp2_with fail
  clear g0 g1 g2 g3 c1' c2' c3 HGN1
  go_loopw [8] (fun i wr => ∃ (k : Nat), k ≤ bs.length ∧ i = .int .i64 k ∧ Hid (lkE N (bs.drop k) ((csl C).drop k) k (pb bs k) (pl (csl C) k) = (Q, E)) ∧ Hid (0 < k → 1 ≤ bs.getD (k - 1) 0 ∧ (lvl (csl C) (k - 1)).length = n) ∧ Hid (Below W.heap.size W wr)) (fun i _ => bs.length - (intOf i).toNat)
  case atStart => exact ⟨0, Nat.zero_le _, rfl, HEl, fun h => absurd h (by omega), HB1⟩
  case round =>
    clear HB1
    obtain ⟨k, hk, rfl, HLE, HPR, HBR⟩ := hrel
    have HGR := Lib.hid (HGN0.out.on HBR.out)
    obtain ⟨g0, g1, g2, g3⟩ := HGR.out.cells
    by_cases hlk : k < bs.length
    rotate_left
    · have hlk' : ¬ (k : Int) < bs.length := by omega
      obtain ⟨rfl, rfl⟩ : Q = 0 ∧ E = 0 := by
        have h := HLE.out
        rw [show bs.drop k = [] from List.drop_eq_nil_of_le (by omega)] at h
        simp only [lkE] at h
        injection h with h1 h2
        exact ⟨h1.symm, h2.symm⟩
      go_wp2_with fail
      go_ret2
      exact ⟨rfl, HEND.out _ HBR.out⟩
    · have hlk' : (k : Int) < bs.length := by omega
      have hkC : k < C.length := by have := HCB.out; omega
      have hkC' : (k : Int) < C.length := by omega
      have hk0 : (0 : Int) ≤ k := by omega
      obtain ⟨ib, ob, hib⟩ := HGR.out.ints.get
      obtain ⟨rfl, hibl, hiat⟩ := hib (by omega)
      have b0 := hiat k hlk
      obtain ⟨bx, ox, hbx⟩ := HGR.out.rws.get
      obtain ⟨rfl, hbl2, hcell⟩ := hbx (by omega)
      have d0 := hcell k hkC
      unfold Cl.val at d0
      have hLE := HLE.out
      rw [drop_getI hlk, drop_getC (by rw [csl_len]; exact hkC)] at hLE
      simp only [lkE] at hLE
      obtain ⟨b, HBb⟩ := named (bs.getD k 0)
      have hIX := (HGR.out.rws.2 k hkC).1
      have hXL := (HGR.out.rws.2 k hkC).2
      rw [csl_at] at hLE
      obtain ⟨xs, va, vc, HXS, HVA, HVC⟩ : ∃ xs va vc, Hid ((cl C k).xs = xs) ∧ Hid ((cl C k).a = va) ∧ Hid ((cl C k).c = vc) := ⟨_, _, _, rfl, rfl, rfl⟩
      rw [HXS.out, HVA.out, HVC.out] at d0
      rw [HXS.out, HVA.out] at hIX
      rw [HXS.out] at hXL
      rw [HXS.out, HBb.out] at hLE
      rw [HBb.out] at b0
      have HIX := Lib.hid hIX
      have HLE2 := Lib.hid hLE
      have HPV : Hid (0 < k → ∃ pbk, Hid (bs.getD (k - 1) 0 = pbk) ∧ wr.cell? ⟨ib, ob + (k - 1), none⟩ = some (.int .i64 pbk)) := fun h => ⟨_, rfl, hiat (k - 1) (by omega)⟩
      have HD1 : Hid (0 < k → wr.cell? ⟨bx, ox + (k - 1), none⟩ = some (.slice (cl C (k - 1)).a (cl C (k - 1)).xs.length (cl C (k - 1)).c)) := fun h => by have := hcell (k - 1) (by omega); unfold Cl.val at this; exact this
      have h10 : k ≤ 10 := by omega
      have HG0 := Lib.hid g0
      have HG1 := Lib.hid g1
      have HG3 := Lib.hid g3
      have HD0 := Lib.hid d0
      have hp1 : p + 1 < wr.heap.size := lt_of_block HGR.out.n
      clear hcell hbx hiat hib hLE hIX HLE
      have HR1 : Hid (¬ (pb bs k < b ∧ b ≤ 1024) → (Q, E) = (k + 1, 1)) := fun h => by
        have h2 := HLE2.out
        have e : nxE N (pb bs k) (pl (csl C) k) b xs = 1 := by unfold nxE; rw [if_pos h]
        rw [e, if_pos (by decide)] at h2
        exact h2.symm
      -- the bound
      have HBND : Hid (b < 1 ∨ 1024 < b ∨ (0 < k ∧ b ≤ bs.getD (k - 1) 0) → (Q, E) = (k + 1, 1)) := fun h => HR1.out (fun h2 => by
        unfold pb at h2
        by_cases e : k = 0
        · rw [if_pos e] at h2; omega
        · rw [if_neg e] at h2
          have := (HPR.out (by omega)).1
          omega)
      by_cases q1 : b < 1
      · obtain ⟨rfl, rfl⟩ : Q = k + 1 ∧ E = 1 := by have := HBND.out (.inl q1); injection this with h1 h2; exact ⟨h1, h2⟩
        go_wp2_with fail
        go_ret2
        exact ⟨rfl, HEND.out _ HBR.out⟩
      · by_cases q2 : 1024 < b
        · obtain ⟨rfl, rfl⟩ : Q = k + 1 ∧ E = 1 := by have := HBND.out (.inr (.inl q2)); injection this with h1 h2; exact ⟨h1, h2⟩
          go_wp2_with fail
          go_ret2
          exact ⟨rfl, HEND.out _ HBR.out⟩
        · by_cases hk0' : k = 0
          · have hkz : ¬ (0 : Int) < k := by omega
            have HK0 := Lib.hid hk0'
            have HBK : Hid (pb bs k < b ∧ b ≤ 1024) := by
              unfold pb
              rw [if_pos hk0']
              constructor <;> omega
            clear hk0'
            have HSTP : Hid (∀ v, v ≠ 0 → nxE N (pb bs k) (pl (csl C) k) b xs = v → (Q, E) = (k + 1, v)) := fun v hv e => by
              have h2 := HLE2.out
              rw [e, if_pos hv] at h2
              exact h2.symm
            have HRR := Lib.hid (fun W2 (hb : Below wr.heap.size wr W2) => rright_any n a l cap va xs vc W2 hn8 hXL (HIX.out.on hb))
            have HBD : Hid (Below wr.heap.size wr wr.drew) := (Below.refl _ _).drew
            obtain ⟨R, HRv⟩ := named (decide (xs.length = n) && tdy xs 0)
            rw [HRv.out, ← HHN.out] at HRR
            have hbxl : bx < wr.heap.size := hbl2
            go_wp2_with fail
            go_region_held3 (fun w' => w'.cell? ⟨p, 0, none⟩ = some (.int .i64 N) ∧ w'.cell? ⟨p, 1, none⟩ = some (.slice a l.length cap) ∧ w'.cell? ⟨p + 1, 1, none⟩ = some (.slice (some ⟨bx, ox, none⟩) C.length cc) ∧ w'.cell? ⟨bx, ox + k, none⟩ = some (.slice va xs.length vc)) (go_keep) ((go_at_call 89; refine (HRR.out _ HBD.out).mono ?_; rintro e w2 ⟨rfl, hb2⟩; have hb2 := HBD.out.trans hb2; have v0 := (hb2.cell (p := ⟨p, 0, none⟩) (by show p < _; omega)).trans HG0.out; have v1 := (hb2.cell (p := ⟨p, 1, none⟩) (by show p < _; omega)).trans HG1.out; have v2 := (hb2.cell (p := ⟨p + 1, 1, none⟩) (by show p + 1 < _; omega)).trans HG3.out; have v3 := (hb2.cell (p := ⟨bx, ox + k, none⟩) hbxl).trans HD0.out; have HB2 := Lib.hid hb2; clear hb2))
            have HBW2 : Hid (Below W.heap.size W w2) := HBR.out.trans (HB2.out.mono HBR.out.size)
            have hz2 := HB2.out.size
            clear g0 g1 g2 g3 b0 d0 HRR
            rcases R with _ | _
            · obtain ⟨rfl, rfl⟩ : Q = k + 1 ∧ E = 80 := by
                have := HSTP.out 80 (by decide) (nx80 HBK.out (by
                  have h := HRv.out
                  rw [Bool.and_eq_false_iff, decide_eq_false_iff_not] at h
                  rcases h with h | h
                  · left; rw [HHN.out]; omega
                  · right; exact h))
                injection this with h1 h2
                exact ⟨h1, h2⟩
              clear v0 v1 v2 v3
              go_wp2_with fail
              go_ret2
              exact ⟨rfl, HEND.out _ HBW2.out⟩
            · obtain ⟨hxn, hty⟩ : xs.length = n ∧ tdy xs 0 = true := by
                have h := HRv.out
                rw [Bool.and_eq_true, decide_eq_true_eq] at h
                exact h
              have HXN : Hid ((xs.length : Int) = N) := by show _ = _; rw [HHN.out]; omega
              have HTY := Lib.hid hty
              have HXn := Lib.hid hxn
              have HSZ := Lib.hid (rsize_any va xs vc w2 (by omega) hty (HIX.out.on HB2.out))
              have hszl : (szL xs).length ≤ 1024 := by have := szL_length xs; omega
              clear hxn hty v0 v1
              go_wp2_with fail
              refine HSZ.out.mono ?_
              rintro e w3 ⟨sv, sc, rfl, hown3, hb3⟩
              have HB3 : Hid (Below W.heap.size W w3) := HBW2.out.trans (hb3.mono HBW2.out.size)
              have hI3 := own_ints hown3 rfl
              have HGS := Lib.hid (greatest_any sv (ints (szL xs)) sc w3 (by rw [ints_len]; omega) hI3)
              rw [ints_len] at HGS
              have HWD := Lib.hid (gm_wd (S := szL xs) (b := b) (by omega))
              obtain ⟨gm, HGM⟩ := named (gmx (ints (szL xs)))
              rw [HGM.out] at HGS HWD
              have HRB3 : Hid (Below wr.heap.size wr w3) := HB2.out.trans (hb3.mono hz2)
              clear HSZ hown3 hb3 hI3 v2 v3
              go_wp2_with fail
              refine HGS.out.mono ?_
              rintro e w3' ⟨rfl, rfl⟩
              by_cases hgm : b < gm
              · obtain ⟨rfl, rfl⟩ : Q = k + 1 ∧ E = 90 := by
                  have := HSTP.out 90 (by decide) (nx90 HBK.out HXN.out HTY.out (by
                    cases h : wdB (szL xs) b with
                    | false => rfl
                    | true => have := HWD.out.2 h; omega))
                  injection this with h1 h2
                  exact ⟨h1, h2⟩
                go_wp2_with fail
                go_ret2
                exact ⟨rfl, HEND.out _ HB3.out⟩
              · have HWT : Hid (wdB (szL xs) b = true) := HWD.out.1 (by omega)
                have HNX : Hid (lkE N (bs.drop (k + 1)) ((csl C).drop (k + 1)) (k + 1) (pb bs (k + 1)) (pl (csl C) (k + 1)) = (Q, E)) := by
                  have h2 := HLE2.out
                  rw [nx0 HBK.out HXN.out HTY.out HWT.out (by unfold pl; rw [if_pos HK0.out]; exact nst_nil _), if_neg (by simp)] at h2
                  rw [pb_succ, pl_succ, csl_at, HXS.out, HBb.out]
                  exact h2
                have HPN : Hid (0 < k + 1 → 1 ≤ bs.getD (k + 1 - 1) 0 ∧ (lvl (csl C) (k + 1 - 1)).length = n) := fun _ => by
                  rw [Nat.add_sub_cancel, HBb.out, csl_at, HXS.out]
                  exact ⟨by omega, HXn.out⟩
                go_wp2_with fail
                go_quiet (fail)
                have HB9 : Hid (Below W.heap.size W (w3'.drewN nq)) := HB3.out.trans (below_drewN _ _ _)
                go_wp2_with fail
                exact ⟨⟨k + 1, by omega, by simp, HNX, HPN, HB9⟩, by simp [intOf]; omega⟩
          · have hkz : (0 : Int) < k := by omega
            obtain ⟨k1, HK1⟩ : ∃ k1, Hid (k = k1 + 1) := ⟨k - 1, by show _ = _; omega⟩
            obtain ⟨pbk, HPB0, hpc⟩ := HPV.out (by omega)
            have hke : k - 1 = k1 := by have := HK1.out; omega
            rw [hke] at hpc
            have ek : (k : Int) - 1 = (k1 : Int) := by have := HK1.out; omega
            have ev1 : IntKind.i64.wrap ((k : Int) - 1) = (k1 : Int) := by rw [ek, IntKind.wrap_i64]; omega
            have ev2 : IntKind.i64.wrap (k1 : Int) = (k1 : Int) := by rw [IntKind.wrap_i64]; have := HK1.out; omega
            have hk1b : (k1 : Int) < bs.length := by have := HK1.out; omega
            have hk1n : (0 : Int) ≤ k1 := by omega
            by_cases q3 : b ≤ pbk
            · obtain ⟨rfl, rfl⟩ : Q = k + 1 ∧ E = 1 := by have := HBND.out (.inr (.inr ⟨by omega, by rw [HPB0.out]; exact q3⟩)); injection this with h1 h2; exact ⟨h1, h2⟩
              clear hke hk0'
              go_wp2_with fail
              go_ret2
              exact ⟨rfl, HEND.out _ HBR.out⟩
            · have HPB : Hid (bs.getD (k - 1) 0 < b) := by show _ < _; rw [HPB0.out]; omega
              clear hke
              have HBK : Hid (pb bs k < b ∧ b ≤ 1024) := by
                unfold pb
                rw [if_neg (by omega)]
                have := HPB.out
                constructor <;> omega
              clear hk0'
              have HSTP : Hid (∀ v, v ≠ 0 → nxE N (pb bs k) (pl (csl C) k) b xs = v → (Q, E) = (k + 1, v)) := fun v hv e => by
                have h2 := HLE2.out
                rw [e, if_pos hv] at h2
                exact h2.symm
              have HRR := Lib.hid (fun W2 (hb : Below wr.heap.size wr W2) => rright_any n a l cap va xs vc W2 hn8 hXL (HIX.out.on hb))
              have HBD : Hid (Below wr.heap.size wr wr.drew) := (Below.refl _ _).drew
              obtain ⟨R, HRv⟩ := named (decide (xs.length = n) && tdy xs 0)
              rw [HRv.out, ← HHN.out] at HRR
              have hbxl : bx < wr.heap.size := hbl2
              go_wp2_with fail
              go_region_held3 (fun w' => w'.cell? ⟨p, 0, none⟩ = some (.int .i64 N) ∧ w'.cell? ⟨p, 1, none⟩ = some (.slice a l.length cap) ∧ w'.cell? ⟨p + 1, 1, none⟩ = some (.slice (some ⟨bx, ox, none⟩) C.length cc) ∧ w'.cell? ⟨bx, ox + k, none⟩ = some (.slice va xs.length vc)) (go_keep) ((go_at_call 89; refine (HRR.out _ HBD.out).mono ?_; rintro e w2 ⟨rfl, hb2⟩; have hb2 := HBD.out.trans hb2; have v0 := (hb2.cell (p := ⟨p, 0, none⟩) (by show p < _; omega)).trans HG0.out; have v1 := (hb2.cell (p := ⟨p, 1, none⟩) (by show p < _; omega)).trans HG1.out; have v2 := (hb2.cell (p := ⟨p + 1, 1, none⟩) (by show p + 1 < _; omega)).trans HG3.out; have v3 := (hb2.cell (p := ⟨bx, ox + k, none⟩) hbxl).trans HD0.out; have HB2 := Lib.hid hb2; clear hb2))
              have HBW2 : Hid (Below W.heap.size W w2) := HBR.out.trans (HB2.out.mono HBR.out.size)
              have hz2 := HB2.out.size
              clear g0 g1 g2 g3 b0 d0 HRR
              rcases R with _ | _
              · obtain ⟨rfl, rfl⟩ : Q = k + 1 ∧ E = 80 := by
                  have := HSTP.out 80 (by decide) (nx80 HBK.out (by
                    have h := HRv.out
                    rw [Bool.and_eq_false_iff, decide_eq_false_iff_not] at h
                    rcases h with h | h
                    · left; rw [HHN.out]; omega
                    · right; exact h))
                  injection this with h1 h2
                  exact ⟨h1, h2⟩
                clear v0 v1 v2 v3
                go_wp2_with fail
                go_ret2
                exact ⟨rfl, HEND.out _ HBW2.out⟩
              · obtain ⟨hxn, hty⟩ : xs.length = n ∧ tdy xs 0 = true := by
                  have h := HRv.out
                  rw [Bool.and_eq_true, decide_eq_true_eq] at h
                  exact h
                have HXN : Hid ((xs.length : Int) = N) := by show _ = _; rw [HHN.out]; omega
                have HTY := Lib.hid hty
                have HXn := Lib.hid hxn
                have HSZ := Lib.hid (rsize_any va xs vc w2 (by omega) hty (HIX.out.on HB2.out))
                have hszl : (szL xs).length ≤ 1024 := by have := szL_length xs; omega
                clear hxn hty v0 v1
                go_wp2_with fail
                refine HSZ.out.mono ?_
                rintro e w3 ⟨sv, sc, rfl, hown3, hb3⟩
                have HB3 : Hid (Below W.heap.size W w3) := HBW2.out.trans (hb3.mono HBW2.out.size)
                have hI3 := own_ints hown3 rfl
                have HGS := Lib.hid (greatest_any sv (ints (szL xs)) sc w3 (by rw [ints_len]; omega) hI3)
                rw [ints_len] at HGS
                have HWD := Lib.hid (gm_wd (S := szL xs) (b := b) (by omega))
                obtain ⟨gm, HGM⟩ := named (gmx (ints (szL xs)))
                rw [HGM.out] at HGS HWD
                have HRB3 : Hid (Below wr.heap.size wr w3) := HB2.out.trans (hb3.mono hz2)
                clear HSZ hown3 hb3 hI3 v2 v3
                go_wp2_with fail
                refine HGS.out.mono ?_
                rintro e w3' ⟨rfl, rfl⟩
                by_cases hgm : b < gm
                · obtain ⟨rfl, rfl⟩ : Q = k + 1 ∧ E = 90 := by
                    have := HSTP.out 90 (by decide) (nx90 HBK.out HXN.out HTY.out (by
                      cases h : wdB (szL xs) b with
                      | false => rfl
                      | true => have := HWD.out.2 h; omega))
                    injection this with h1 h2
                    exact ⟨h1, h2⟩
                  go_wp2_with fail
                  go_ret2
                  exact ⟨rfl, HEND.out _ HB3.out⟩
                · have HWT : Hid (wdB (szL xs) b = true) := HWD.out.1 (by omega)
                  obtain ⟨ys, ua, uc, HYS, HUA, HUC⟩ : ∃ ys ua uc, Hid ((cl C (k - 1)).xs = ys) ∧ Hid ((cl C (k - 1)).a = ua) ∧ Hid ((cl C (k - 1)).c = uc) := ⟨_, _, _, rfl, rfl, rfl⟩
                  have hyn : ys.length = n := by have := (HPR.out (by omega)).2; rw [csl_at, HYS.out] at this; exact this
                  have hIY := (HGR.out.rws.2 (k - 1) (by omega)).1
                  rw [HYS.out, HUA.out] at hIY
                  have hD1 := HD1.out (by omega)
                  rw [HYS.out, HUA.out, HUC.out] at hD1
                  have ek1 : k - 1 = k1 := by have := HK1.out; omega
                  rw [ek1] at hD1
                  have hxn' := HXn.out
                  have hx1 : xs.length ≤ 1024 := by omega
                  have hy1 : ys.length ≤ 1024 := by omega
                  have hyx : ys.length ≤ xs.length := by omega
                  clear hyn hxn'
                  have HNE := Lib.hid (fun W2 (hb : Below wr.heap.size wr W2) => nested_any ua ys uc va xs vc W2 (by omega) (by omega) (by omega) (hIY.on hb) (HIX.out.on hb))
                  obtain ⟨T, HTT⟩ := named (decide (Nst ys xs))
                  rw [HTT.out] at HNE
                  have u0 := (HRB3.out.cell (p := ⟨p + 1, 1, none⟩) (by show p + 1 < _; omega)).trans HG3.out
                  have u1 := (HRB3.out.cell (p := ⟨bx, ox + k1, none⟩) hbxl).trans hD1
                  have u2 := (HRB3.out.cell (p := ⟨bx, ox + k, none⟩) hbxl).trans HD0.out
                  have U0 := Lib.hid u0
                  have U1 := Lib.hid u1
                  have U2 := Lib.hid u2
                  have HD9 := Lib.hid hD1
                  have HBD3 : Hid (Below w3'.heap.size w3' w3'.drew) := (Below.refl _ _).drew
                  have hzz := HRB3.out.size
                  have hk1C : (k1 : Int) < C.length := by omega
                  have hk10 : (0 : Int) ≤ k1 := by omega
                  clear hIY ek1 hD1
                  go_wp2_with fail
                  go_region_held3 (fun w' => w'.cell? ⟨p + 1, 1, none⟩ = some (.slice (some ⟨bx, ox, none⟩) C.length cc) ∧ w'.cell? ⟨bx, ox + k1, none⟩ = some (.slice ua ys.length uc) ∧ w'.cell? ⟨bx, ox + k, none⟩ = some (.slice va xs.length vc)) (go_keep) ((go_at_call 92; refine (HNE.out _ (HRB3.out.trans (HBD3.out.mono hzz))).mono ?_; rintro e w4 ⟨rfl, hb4⟩; have hb4 := HBD3.out.trans hb4; have v0 := (hb4.cell (p := ⟨p + 1, 1, none⟩) (by show p + 1 < _; omega)).trans U0.out; have v1 := (hb4.cell (p := ⟨bx, ox + k1, none⟩) (by show bx < _; omega)).trans U1.out; have v2 := (hb4.cell (p := ⟨bx, ox + k, none⟩) (by show bx < _; omega)).trans U2.out; have HB4 := Lib.hid hb4; clear hb4))
                  have HB9 : Hid (Below W.heap.size W w4) := HB3.out.trans (HB4.out.mono HB3.out.size)
                  have HPL : Hid (pl (csl C) k = ys) := by
                    show _ = _
                    unfold pl
                    rw [if_neg (by omega), csl_at, HYS.out]
                  clear u0 u1 u2 v0 v1 v2
                  rcases T with _ | _
                  · obtain ⟨rfl, rfl⟩ : Q = k + 1 ∧ E = 110 := by
                      have := HSTP.out 110 (by decide) (nx110 HBK.out HXN.out HTY.out HWT.out (by rw [HPL.out]; simpa using HTT.out))
                      injection this with h1 h2
                      exact ⟨h1, h2⟩
                    go_wp2_with fail
                    go_ret2
                    exact ⟨rfl, HEND.out _ HB9.out⟩
                  · have HNX : Hid (lkE N (bs.drop (k + 1)) ((csl C).drop (k + 1)) (k + 1) (pb bs (k + 1)) (pl (csl C) (k + 1)) = (Q, E)) := by
                      have h2 := HLE2.out
                      rw [nx0 HBK.out HXN.out HTY.out HWT.out (by rw [HPL.out]; simpa using HTT.out), if_neg (by simp)] at h2
                      rw [pb_succ, pl_succ, csl_at, HXS.out, HBb.out]
                      exact h2
                    have HPN : Hid (0 < k + 1 → 1 ≤ bs.getD (k + 1 - 1) 0 ∧ (lvl (csl C) (k + 1 - 1)).length = n) := fun _ => by
                      rw [Nat.add_sub_cancel, HBb.out, csl_at, HXS.out]
                      exact ⟨by omega, HXn.out⟩
                    go_wp2_with fail
                    exact ⟨⟨k + 1, by omega, by simp, HNX, HPN, HB9⟩, by simp [intOf]; omega⟩
end Go.Proofs.YtpmjbeiclmllmaaGreat
