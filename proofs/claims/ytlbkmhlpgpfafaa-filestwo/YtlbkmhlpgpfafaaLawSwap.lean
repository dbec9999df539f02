/-
  FilesSwap answers true.
-/
import Derived.Test.YtlbkmhlpgpfafaaLawSafe
import Derived.Test.YtlbkmhlpgpfafaaGivenA
namespace Go.Proofs.Ytlbkmhlpgpfafaa
open Go.RowKit Go.Maps Go.Joins
def amg (x : Int) (n : Nat) : Int := x % (n : Int)
theorem tmod_bd (x : Int) (n : Nat) (h : 0 < n) : -(n : Int) < Int.tmod x n ∧ Int.tmod x n < n := by
  have h1 := Int.tmod_lt_of_pos x (show (0 : Int) < n by omega)
  have h2 := Int.tmod_lt_of_pos (-x) (show (0 : Int) < n by omega)
  rw [Int.neg_tmod] at h2
  omega
theorem tmod_amg (x : Int) (n : Nat) : (x.tmod n + n) % (n : Int) = amg x n := by
  unfold amg
  rw [Int.add_emod_right]
  have h := Int.mul_tdiv_add_tmod x n
  conv => rhs; rw [← h]
  rw [Int.mul_add_emod_self_left]
set_option maxHeartbeats 400000 in
theorem among_any (x : Int) (n : Nat) (hn : 0 < n) (hn2 : n ≤ 1000) (w : World) :
    Calls Try.prog 14 #[.int .i64 x, .int .i64 n] w fun e w' => e = .returned (.int .i64 (amg x n)) ∧ w' = w := by
  have h1 := tmod_bd x n hn
  have H2 := Lib.hid (tmod_amg x n)
  have hz : ((n : Int) == 0) = false := by simp; omega
  go_enter Try.func14, Try.ntmps14
  go_wp2_with fail
  go_ret
  rw [← H2.out]
  exact ⟨rfl, rfl⟩
theorem fu5 (A : List UInt8) (k : Int) (hk : 0 ≤ k) : fuE k = 0 ∧ fuS ⟨[⟨[97], A, A, true⟩], false, -1⟩ k = ⟨[⟨[97], A, A, true⟩], false, k⟩ := by
  have h : ¬ k < 0 := by omega
  simp [fuE, fuS, h]
theorem wb0 (A M : List UInt8) (hM : M.length ≤ 262144) : wrE ⟨[⟨[97], A, A, true⟩], false, 0⟩ [98] M = 191 ∧ wrS ⟨[⟨[97], A, A, true⟩], false, 0⟩ [98] M = ⟨[⟨[97], A, A, true⟩], true, 0⟩ := by
  have e : wrLong ⟨[⟨[97], A, A, true⟩], false, 0⟩ [98] M = false := by unfold wrLong; rw [decide_eq_false (by omega)]; rfl
  unfold wrE wrS
  rw [e]
  exact ⟨rfl, rfl⟩
theorem cg_pos (l : List PF) (n : Int) (h : 0 < n) : chgOk ⟨l, false, n⟩ = true ∧ chgUp ⟨l, false, n⟩ = ⟨l, false, n - 1⟩ := by
  have h1 : ¬ n = 0 := by omega
  simp [chgOk, chgUp, h, h1]
theorem wb1 (A M : List UInt8) (n : Int) (hn : 0 < n) (hM : M.length ≤ 262144) : wrE ⟨[⟨[97], A, A, true⟩], false, n⟩ [98] M = 0 ∧ wrS ⟨[⟨[97], A, A, true⟩], false, n⟩ [98] M = ⟨[⟨[97], A, A, true⟩, ⟨[98], M, [], false⟩], false, n - 1⟩ := by
  have e : wrLong ⟨[⟨[97], A, A, true⟩], false, n⟩ [98] M = false := by unfold wrLong; rw [decide_eq_false (by omega)]; rfl
  have hm : mayN [98] = true := rfl
  rw [(wr_eq hm).1, (wr_eq hm).2, e, (cg_pos _ n hn).1, (cg_pos _ n hn).2]
  exact ⟨rfl, rfl⟩
theorem sb0 (A M : List UInt8) : syE ⟨[⟨[97], A, A, true⟩, ⟨[98], M, [], false⟩], false, 0⟩ [98] = 191 ∧ syS ⟨[⟨[97], A, A, true⟩, ⟨[98], M, [], false⟩], false, 0⟩ [98] = ⟨[⟨[97], A, A, true⟩, ⟨[98], M, [], false⟩], true, 0⟩ := ⟨rfl, rfl⟩
theorem sb1 (A M : List UInt8) (n : Int) (hn : 0 < n) : syE ⟨[⟨[97], A, A, true⟩, ⟨[98], M, [], false⟩], false, n⟩ [98] = 0 ∧ syS ⟨[⟨[97], A, A, true⟩, ⟨[98], M, [], false⟩], false, n⟩ [98] = ⟨[⟨[97], A, A, true⟩, ⟨[98], M, M, true⟩], false, n - 1⟩ := by
  have hk : knE ⟨[⟨[97], A, A, true⟩, ⟨[98], M, [], false⟩], false, n⟩ [98] = 0 := rfl
  rw [(syS_eq hk).1, (syS_eq hk).2, (cg_pos _ n hn).1, (cg_pos _ n hn).2]
  exact ⟨rfl, rfl⟩
theorem rb0 (A M : List UInt8) : reE ⟨[⟨[97], A, A, true⟩, ⟨[98], M, M, true⟩], false, 0⟩ [98] [97] = 191 ∧ reS ⟨[⟨[97], A, A, true⟩, ⟨[98], M, M, true⟩], false, 0⟩ [98] [97] = ⟨[⟨[97], A, A, true⟩, ⟨[98], M, M, true⟩], true, 0⟩ := ⟨rfl, rfl⟩
theorem rb1 (A M : List UInt8) (n : Int) (hn : 0 < n) : reE ⟨[⟨[97], A, A, true⟩, ⟨[98], M, M, true⟩], false, n⟩ [98] [97] = 0 ∧ reS ⟨[⟨[97], A, A, true⟩, ⟨[98], M, M, true⟩], false, n⟩ [98] [97] = ⟨[⟨[97], M, M, true⟩], false, n - 1⟩ := by
  have hk : knE ⟨[⟨[97], A, A, true⟩, ⟨[98], M, M, true⟩], false, n⟩ [98] = 0 := rfl
  rw [(re_eq rfl rfl hk).1, (re_eq rfl rfl hk).2, (cg_pos _ n hn).1, (cg_pos _ n hn).2]
  exact ⟨rfl, rfl⟩
theorem crA (X : List UInt8) (r : List PF) (dn : Bool) (n : Int) (xs : List Int) (hx : xs.length ≤ 16384) : crE xs = 0 ∧ knE (crS ⟨⟨[97], X, X, true⟩ :: r, dn, n⟩ xs) [97] = 0 ∧ rdT (crS ⟨⟨[97], X, X, true⟩ :: r, dn, n⟩ xs) [97] = X := by
  have h : ¬ 16384 < xs.length := by omega
  have e : crS ⟨⟨[97], X, X, true⟩ :: r, dn, n⟩ xs = ⟨⟨[97], X, X, true⟩ :: crL r xs, false, -1⟩ := by
    unfold crS
    rw [if_neg h]
    simp [crL, isSafe]
  rw [e]
  exact ⟨by simp [crE, h], rfl, rfl⟩
set_option maxRecDepth 100000 in
set_option maxHeartbeats 12800000 in
theorem law_swap (A M : ByteArray) (fu : Int) (a : Option Addr) (xs : List Int) (cap : Nat) (w : World) (hA : A.size ≤ 140737488351232) (hM : M.size ≤ 140737488351232) (hx : xs.length ≤ cap ∧ cap ≤ 9223372036854775807 ∧ xs.length ≤ 140737488351232) (hi : IntB w.heap.size w a xs) :
    Calls Try.prog 7 #[.string A, .string M, .agg #[.int .i64 fu, .slice a xs.length cap]] w fun e w' => e = .returned (.bool true) ∧ Below w.heap.size w w' := by
  have hal : A.data.toList.length = A.size := by rw [Array.length_toList]; rfl
  have hml : M.data.toList.length = M.size := by rw [Array.length_toList]; rfl
  have HX := Lib.hid (And.intro hx hi)
  obtain ⟨X, HXL⟩ := named xs.length
  by_cases g1 : 262144 < A.size
  · have g1' : (262144 : Int) < A.size := by omega
    rw [HXL.out]
    clear g1 hal hml hx hi
    go_enter Try.func7, Try.ntmps7
    go_wp2_with fail
    refine (New_d _).mono ?_
    rintro e w0 ⟨d, rfl, h0, hb0⟩
    go_wp2_with fail
    refine (works_any w0).mono ?_
    rintro e w1 ⟨rfl, hb1⟩
    have b1 := ((Below.refl w.heap.size w).alloc (Nat.le_refl _) _).trans ((bthen hb0 hb1 hb0.size).mono (by simp))
    go_wp2_with fail
    go_ret
    exact ⟨rfl, b1⟩
  · have g1' : ¬ (262144 : Int) < A.size := by omega
    by_cases g2 : 262144 < M.size
    · have g2' : (262144 : Int) < M.size := by omega
      rw [HXL.out]
      clear g1 g2 hal hml hx hi
      go_enter Try.func7, Try.ntmps7
      go_wp2_with fail
      refine (New_d _).mono ?_
      rintro e w0 ⟨d, rfl, h0, hb0⟩
      go_wp2_with fail
      refine (works_any w0).mono ?_
      rintro e w1 ⟨rfl, hb1⟩
      have b1 := ((Below.refl w.heap.size w).alloc (Nat.le_refl _) _).trans ((bthen hb0 hb1 hb0.size).mono (by simp))
      go_wp2_with fail
      go_ret
      exact ⟨rfl, b1⟩
    · have g2' : ¬ (262144 : Int) < M.size := by omega
      obtain ⟨q0, q1⟩ : (w.alloc (.cells #[.int .i64 fu, .slice a X cap] 48)).cell? ⟨w.heap.size, 0, none⟩ = some (.int .i64 fu) ∧ (w.alloc (.cells #[.int .i64 fu, .slice a X cap] 48)).cell? ⟨w.heap.size, 1, none⟩ = some (.slice a X cap) := by simp
      by_cases g3 : 16384 < X
      · have g3' : (16384 : Int) < X := by omega
        rw [HXL.out]
        clear g1 g2 g3 hal hml hx hi
        go_enter Try.func7, Try.ntmps7
        go_wp2_with fail
        refine (New_d _).mono ?_
        rintro e w0 ⟨d, rfl, h0, hb0⟩
        go_wp2_with fail
        refine (works_any w0).mono ?_
        rintro e w1 ⟨rfl, hb1⟩
        have b0 := bthen hb0 hb1 hb0.size
        have b1 := ((Below.refl w.heap.size w).alloc (Nat.le_refl _) _).trans (b0.mono (by simp))
        have r1 := (b0.cell (p := ⟨w.heap.size, 1, none⟩) (by simp)).trans q1
        go_wp2_with fail
        go_ret
        exact ⟨rfl, b1⟩
      · have g3' : ¬ (16384 : Int) < X := by omega
        obtain ⟨k, HK⟩ := named (amg fu 5)
        have hk0 : 0 ≤ k ∧ k < 5 := by rw [← HK.out]; unfold amg; omega
        have HAM := Lib.hid (fun W : World => among_any fu 5 (by omega) (by omega) W)
        rw [HK.out] at HAM
        have E1 := Lib.hid (wr0 A.data.toList (by omega))
        have E2 := Lib.hid (sy0 A.data.toList [] false (-1) (Or.inl rfl))
        have E3 := Lib.hid (fu5 A.data.toList k hk0.1)
        have HML : Hid (M.data.toList.length ≤ 262144) := by show _ ≤ _; omega
        have HX16 : Hid (xs.length ≤ 16384) := by show _ ≤ _; rw [HXL.out]; omega
        rw [HXL.out]
        clear g1 g2 g3 hal hml hx hi
        go_enter Try.func7, Try.ntmps7
        go_wp2_with fail
        refine (New_d _).mono ?_
        rintro e w0 ⟨d, rfl, h0, hb0⟩
        go_wp2_with fail
        refine (works_any w0).mono ?_
        rintro e w1 ⟨rfl, hb1⟩
        have b1 := bthen hb0 hb1 hb0.size
        have r0 := (b1.cell (p := ⟨w.heap.size, 0, none⟩) (by simp)).trans q0
        have r1 := (b1.cell (p := ⟨w.heap.size, 1, none⟩) (by simp)).trans q1
        have HC := Lib.hid (Write_d (h0.on hb1) ⟨#[97]⟩ A (by decide) hA)
        rw [show (⟨#[97]⟩ : ByteArray).data.toList = [97] from rfl, E1.out.1, E1.out.2] at HC
        clear h0 hb0 hb1
        go_wp2_with fail
        refine HC.out.mono ?_
        rintro e w2 ⟨rfl, h2, hb2⟩
        have b2 := b1.trans hb2
        have HC2 := Lib.hid (Sync_d h2 ⟨#[97]⟩ (by decide))
        rw [show (⟨#[97]⟩ : ByteArray).data.toList = [97] from rfl, E2.out.1, E2.out.2, show (if (0 : Int) < -1 then (-1 : Int) - 1 else -1) = -1 from rfl] at HC2
        clear h2 hb2 b1 HC r0 r1
        go_wp2_with fail
        refine HC2.out.mono ?_
        rintro e w3 ⟨rfl, h3, hb3⟩
        have b3 := b2.trans hb3
        have r0 := (b3.cell (p := ⟨w.heap.size, 0, none⟩) (by simp)).trans q0
        have HC3 := Lib.hid (Fuse_d h3 k (by omega))
        rw [E3.out.1, E3.out.2] at HC3
        clear h3 hb3 b2 HC2
        go_wp2_with fail
        refine (HAM.out _).mono ?_
        rintro e w4 ⟨rfl, rfl⟩
        go_wp2_with fail
        refine HC3.out.mono ?_
        rintro e w4 ⟨rfl, h4, hb4⟩
        have b4 := b3.trans hb4
        clear hb4 b3 HC3 r0
        have HI9 : Hid (IntB (w.alloc (.cells #[.int .i64 fu, .slice a X cap] 48)).heap.size (w.alloc (.cells #[.int .i64 fu, .slice a X cap] 48)) a xs) := (HX.out.2.on ((Below.refl w.heap.size w).alloc (Nat.le_refl _) _)).mono (by simp)
        by_cases k0 : k = 0
        · rw [k0] at h4
          have F5 := Lib.hid (wb0 A.data.toList M.data.toList HML.out)
          have HC5 := Lib.hid (Write_d h4 ⟨#[98]⟩ M (by decide) hM)
          rw [show (⟨#[98]⟩ : ByteArray).data.toList = [98] from rfl, F5.out.1, F5.out.2] at HC5
          clear h4
          go_wp2_with fail
          refine HC5.out.mono ?_
          rintro e w5 ⟨rfl, h5, hb5⟩
          have b5 := b4.trans hb5
          clear hb5 b4 HC5 F5
          have E9 := Lib.hid (crA A.data.toList [] true 0 xs HX16.out)
          have r1 := (b5.cell (p := ⟨w.heap.size, 1, none⟩) (by simp)).trans q1
          have HC9 := Lib.hid (Crash_d h5 a xs cap HX.out.1.2.2 HX.out.1.2.1 HX.out.1.1 (HI9.out.on b5))
          rw [HXL.out, E9.out.1] at HC9
          clear h5
          go_wp2_with fail
          refine HC9.out.mono ?_
          rintro e w9 ⟨rfl, h9, hb9⟩
          have b9 := b5.trans hb9
          have HC10 := Lib.hid (Read_d h9 ⟨#[97]⟩ (by decide))
          rw [show (⟨#[97]⟩ : ByteArray).data.toList = [97] from rfl, E9.out.2.1, E9.out.2.2, show (⟨A.data.toList.toArray⟩ : ByteArray) = A by simp] at HC10
          clear h9 hb9 b5 HC9 E9
          go_wp2_with fail
          refine HC10.out.mono ?_
          rintro e w10 ⟨rfl, rfl⟩
          have b10 := ((Below.refl w.heap.size w).alloc (Nat.le_refl _) _).trans (b9.mono (by simp))
          go_wp2_with fail
          go_ret
          exact ⟨rfl, b10⟩
        · by_cases k1 : k = 1
          · rw [k1] at h4
            have F5 := Lib.hid (wb1 A.data.toList M.data.toList 1 (by decide) HML.out)
            have HC5 := Lib.hid (Write_d h4 ⟨#[98]⟩ M (by decide) hM)
            rw [show (⟨#[98]⟩ : ByteArray).data.toList = [98] from rfl, F5.out.1, F5.out.2] at HC5
            clear h4
            go_wp2_with fail
            refine HC5.out.mono ?_
            rintro e w5 ⟨rfl, h5, hb5⟩
            have b5 := b4.trans hb5
            clear hb5 b4 HC5 F5
            rw [show (1 : Int) - 1 = 0 from rfl] at h5
            have F6 := Lib.hid (sb0 A.data.toList M.data.toList)
            have HC6 := Lib.hid (Sync_d h5 ⟨#[98]⟩ (by decide))
            rw [show (⟨#[98]⟩ : ByteArray).data.toList = [98] from rfl, F6.out.1, F6.out.2] at HC6
            clear h5
            go_wp2_with fail
            refine HC6.out.mono ?_
            rintro e w6 ⟨rfl, h6, hb6⟩
            have b6 := b5.trans hb6
            clear hb6 b5 HC6 F6
            have E9 := Lib.hid (crA A.data.toList [⟨[98], M.data.toList, [], false⟩] true 0 xs HX16.out)
            have r1 := (b6.cell (p := ⟨w.heap.size, 1, none⟩) (by simp)).trans q1
            have HC9 := Lib.hid (Crash_d h6 a xs cap HX.out.1.2.2 HX.out.1.2.1 HX.out.1.1 (HI9.out.on b6))
            rw [HXL.out, E9.out.1] at HC9
            clear h6
            go_wp2_with fail
            refine HC9.out.mono ?_
            rintro e w9 ⟨rfl, h9, hb9⟩
            have b9 := b6.trans hb9
            have HC10 := Lib.hid (Read_d h9 ⟨#[97]⟩ (by decide))
            rw [show (⟨#[97]⟩ : ByteArray).data.toList = [97] from rfl, E9.out.2.1, E9.out.2.2, show (⟨A.data.toList.toArray⟩ : ByteArray) = A by simp] at HC10
            clear h9 hb9 b6 HC9 E9
            go_wp2_with fail
            refine HC10.out.mono ?_
            rintro e w10 ⟨rfl, rfl⟩
            have b10 := ((Below.refl w.heap.size w).alloc (Nat.le_refl _) _).trans (b9.mono (by simp))
            go_wp2_with fail
            go_ret
            exact ⟨rfl, b10⟩
          · by_cases k2 : k = 2
            · rw [k2] at h4
              have F5 := Lib.hid (wb1 A.data.toList M.data.toList 2 (by decide) HML.out)
              have HC5 := Lib.hid (Write_d h4 ⟨#[98]⟩ M (by decide) hM)
              rw [show (⟨#[98]⟩ : ByteArray).data.toList = [98] from rfl, F5.out.1, F5.out.2] at HC5
              clear h4
              go_wp2_with fail
              refine HC5.out.mono ?_
              rintro e w5 ⟨rfl, h5, hb5⟩
              have b5 := b4.trans hb5
              clear hb5 b4 HC5 F5
              rw [show (2 : Int) - 1 = 1 from rfl] at h5
              have F6 := Lib.hid (sb1 A.data.toList M.data.toList 1 (by decide))
              have HC6 := Lib.hid (Sync_d h5 ⟨#[98]⟩ (by decide))
              rw [show (⟨#[98]⟩ : ByteArray).data.toList = [98] from rfl, F6.out.1, F6.out.2] at HC6
              clear h5
              go_wp2_with fail
              refine HC6.out.mono ?_
              rintro e w6 ⟨rfl, h6, hb6⟩
              have b6 := b5.trans hb6
              clear hb6 b5 HC6 F6
              rw [show (1 : Int) - 1 = 0 from rfl] at h6
              have F7 := Lib.hid (rb0 A.data.toList M.data.toList)
              have HC7 := Lib.hid (Rename_d h6 ⟨#[98]⟩ ⟨#[97]⟩ (by decide))
              rw [show (⟨#[98]⟩ : ByteArray).data.toList = [98] from rfl, show (⟨#[97]⟩ : ByteArray).data.toList = [97] from rfl, F7.out.1, F7.out.2] at HC7
              clear h6
              go_wp2_with fail
              refine HC7.out.mono ?_
              rintro e w7 ⟨rfl, h7, hb7⟩
              have b7 := b6.trans hb7
              clear hb7 b6 HC7 F7
              have E9 := Lib.hid (crA A.data.toList [⟨[98], M.data.toList, M.data.toList, true⟩] true 0 xs HX16.out)
              have r1 := (b7.cell (p := ⟨w.heap.size, 1, none⟩) (by simp)).trans q1
              have HC9 := Lib.hid (Crash_d h7 a xs cap HX.out.1.2.2 HX.out.1.2.1 HX.out.1.1 (HI9.out.on b7))
              rw [HXL.out, E9.out.1] at HC9
              clear h7
              go_wp2_with fail
              refine HC9.out.mono ?_
              rintro e w9 ⟨rfl, h9, hb9⟩
              have b9 := b7.trans hb9
              have HC10 := Lib.hid (Read_d h9 ⟨#[97]⟩ (by decide))
              rw [show (⟨#[97]⟩ : ByteArray).data.toList = [97] from rfl, E9.out.2.1, E9.out.2.2, show (⟨A.data.toList.toArray⟩ : ByteArray) = A by simp] at HC10
              clear h9 hb9 b7 HC9 E9
              go_wp2_with fail
              refine HC10.out.mono ?_
              rintro e w10 ⟨rfl, rfl⟩
              have b10 := ((Below.refl w.heap.size w).alloc (Nat.le_refl _) _).trans (b9.mono (by simp))
              go_wp2_with fail
              go_ret
              exact ⟨rfl, b10⟩
            · skip
              have F5 := Lib.hid (wb1 A.data.toList M.data.toList k (by omega) HML.out)
              have HC5 := Lib.hid (Write_d h4 ⟨#[98]⟩ M (by decide) hM)
              rw [show (⟨#[98]⟩ : ByteArray).data.toList = [98] from rfl, F5.out.1, F5.out.2] at HC5
              clear h4
              go_wp2_with fail
              refine HC5.out.mono ?_
              rintro e w5 ⟨rfl, h5, hb5⟩
              have b5 := b4.trans hb5
              clear hb5 b4 HC5 F5
              have F6 := Lib.hid (sb1 A.data.toList M.data.toList (k - 1) (by omega))
              have HC6 := Lib.hid (Sync_d h5 ⟨#[98]⟩ (by decide))
              rw [show (⟨#[98]⟩ : ByteArray).data.toList = [98] from rfl, F6.out.1, F6.out.2] at HC6
              clear h5
              go_wp2_with fail
              refine HC6.out.mono ?_
              rintro e w6 ⟨rfl, h6, hb6⟩
              have b6 := b5.trans hb6
              clear hb6 b5 HC6 F6
              have F7 := Lib.hid (rb1 A.data.toList M.data.toList (k - 1 - 1) (by omega))
              have HC7 := Lib.hid (Rename_d h6 ⟨#[98]⟩ ⟨#[97]⟩ (by decide))
              rw [show (⟨#[98]⟩ : ByteArray).data.toList = [98] from rfl, show (⟨#[97]⟩ : ByteArray).data.toList = [97] from rfl, F7.out.1, F7.out.2] at HC7
              clear h6
              go_wp2_with fail
              refine HC7.out.mono ?_
              rintro e w7 ⟨rfl, h7, hb7⟩
              have b7 := b6.trans hb7
              clear hb7 b6 HC7 F7
              have E9 := Lib.hid (crA M.data.toList [] false (k - 1 - 1 - 1) xs HX16.out)
              have r1 := (b7.cell (p := ⟨w.heap.size, 1, none⟩) (by simp)).trans q1
              have HC9 := Lib.hid (Crash_d h7 a xs cap HX.out.1.2.2 HX.out.1.2.1 HX.out.1.1 (HI9.out.on b7))
              rw [HXL.out, E9.out.1] at HC9
              clear h7
              go_wp2_with fail
              refine HC9.out.mono ?_
              rintro e w9 ⟨rfl, h9, hb9⟩
              have b9 := b7.trans hb9
              have HC10 := Lib.hid (Read_d h9 ⟨#[97]⟩ (by decide))
              rw [show (⟨#[97]⟩ : ByteArray).data.toList = [97] from rfl, E9.out.2.1, E9.out.2.2, show (⟨M.data.toList.toArray⟩ : ByteArray) = M by simp] at HC10
              clear h9 hb9 b7 HC9 E9
              go_wp2_with fail
              refine HC10.out.mono ?_
              rintro e w10 ⟨rfl, rfl⟩
              have b10 := ((Below.refl w.heap.size w).alloc (Nat.le_refl _) _).trans (b9.mono (by simp))
              go_wp2_with fail
              go_ret
              exact ⟨rfl, b10⟩
end Go.Proofs.Ytlbkmhlpgpfafaa
