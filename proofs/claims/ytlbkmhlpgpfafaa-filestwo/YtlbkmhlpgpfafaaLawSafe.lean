/-
  FilesSafe answers true.
-/
import Derived.Test.YtlbkmhlpgpfafaaWks
namespace Go.Proofs.Ytlbkmhlpgpfafaa
open Go.RowKit Go.Maps Go.Joins
theorem wr0 (D : List UInt8) (h : D.length ≤ 262144) : wrE S0 [97] D = 0 ∧ wrS S0 [97] D = ⟨[⟨[97], D, [], false⟩], false, -1⟩ := by
  have e : wrLong S0 [97] D = false := by unfold wrLong; rw [decide_eq_false (by omega)]; rfl
  unfold wrE wrS
  rw [e]
  exact ⟨rfl, rfl⟩
theorem sy0 (D : List UInt8) (sf : List UInt8) (k : Bool) (l : Int) (hl : l = -1 ∨ 0 < l) : syE ⟨[⟨[97], D, sf, k⟩], false, l⟩ [97] = 0 ∧ syS ⟨[⟨[97], D, sf, k⟩], false, l⟩ [97] = ⟨[⟨[97], D, D, true⟩], false, if 0 < l then l - 1 else l⟩ := by
  have hc : chgOk ⟨[⟨[97], D, sf, k⟩], false, l⟩ = true := by unfold chgOk; simp; omega
  have hk : knE ⟨[⟨[97], D, sf, k⟩], false, l⟩ [97] = 0 := rfl
  rw [(syS_eq hk).1, (syS_eq hk).2, hc]
  exact ⟨rfl, rfl⟩
theorem ap0 (D M : List UInt8) (h : D.length + M.length ≤ 262144) : apE ⟨[⟨[97], D, D, true⟩], false, -1⟩ [97] M = 0 ∧ apS ⟨[⟨[97], D, D, true⟩], false, -1⟩ [97] M = ⟨[⟨[97], D ++ M, D, true⟩], false, -1⟩ := by
  have hk : knE ⟨[⟨[97], D, D, true⟩], false, -1⟩ [97] = 0 := rfl
  have hp : fnd ⟨[⟨[97], D, D, true⟩], false, -1⟩ [97] = some ⟨[97], D, D, true⟩ := rfl
  have hn : ¬ 262144 < D.length + M.length := by omega
  rw [(apS_eq hk hp).1, (apS_eq hk hp).2]
  simp only [if_neg hn]
  exact ⟨rfl, rfl⟩
theorem wr1 (X D M : List UInt8) (h : M.length ≤ 262144) : wrE ⟨[⟨[97], X, D, true⟩], false, -1⟩ [98] M = 0 ∧ wrS ⟨[⟨[97], X, D, true⟩], false, -1⟩ [98] M = ⟨[⟨[97], X, D, true⟩, ⟨[98], M, [], false⟩], false, -1⟩ := by
  have e : wrLong ⟨[⟨[97], X, D, true⟩], false, -1⟩ [98] M = false := by unfold wrLong; rw [decide_eq_false (by omega)]; rfl
  unfold wrE wrS
  rw [e]
  exact ⟨rfl, rfl⟩
theorem sy1 (X D M : List UInt8) : syE ⟨[⟨[97], X, D, true⟩, ⟨[98], M, [], false⟩], false, -1⟩ [98] = 0 ∧ syS ⟨[⟨[97], X, D, true⟩, ⟨[98], M, [], false⟩], false, -1⟩ [98] = ⟨[⟨[97], X, D, true⟩, ⟨[98], M, M, true⟩], false, -1⟩ := ⟨rfl, rfl⟩
/-- What a has behind the crash. -/
def safR (D M : List UInt8) (x : Int) : List UInt8 := if isSafe ⟨[97], D ++ M, D, true⟩ then D ++ M else tearN ⟨[97], D ++ M, D, true⟩ x
theorem cr0 (D M : List UInt8) (x : Int) : ∃ fa fb, crS ⟨[⟨[97], D ++ M, D, true⟩, ⟨[98], M, M, true⟩], false, -1⟩ [x] = ⟨[⟨[97], safR D M x, fa, true⟩, ⟨[98], M, fb, true⟩], false, -1⟩ := by
  have hb : isSafe ⟨[98], M, M, true⟩ = true := by simp [isSafe]
  show ∃ fa fb, (⟨crL [⟨[97], D ++ M, D, true⟩, ⟨[98], M, M, true⟩] [x], false, -1⟩ : PS) = _
  unfold safR
  cases h : isSafe ⟨[97], D ++ M, D, true⟩ with
  | true =>
    refine ⟨D, M, ?_⟩
    simp [crL, h, hb]
  | false =>
    refine ⟨tearN ⟨[97], D ++ M, D, true⟩ x, M, ?_⟩
    simp [crL, h, hb, tearF]
theorem saf_is (D M : List UInt8) (x : Int) : (∃ k, safR D M x = (D ++ M).take k ∧ D.length ≤ k ∧ k ≤ (D ++ M).length) ∧ ((0 ≤ x ∧ M ≠ []) ∨ safR D M x = D) := by
  by_cases hM : M = []
  · subst hM
    have e : safR D [] x = D := by simp [safR, isSafe]
    refine ⟨⟨D.length, by rw [e]; simp, Nat.le_refl _, by simp⟩, Or.inr e⟩
  · have e : safR D M x = tearN ⟨[97], D ++ M, D, true⟩ x := by
      unfold safR
      rw [if_neg]
      unfold isSafe
      simp [hM]
    have hp : D.isPrefixOf (D ++ M) = true := by rw [List.isPrefixOf_iff_prefix]; exact List.prefix_append _ _
    by_cases hx : x < 0
    · have e2 : safR D M x = D := by rw [e, tearN_neg x hx]
      exact ⟨⟨D.length, by rw [e2]; simp, Nat.le_refl _, by simp⟩, Or.inr e2⟩
    · refine ⟨⟨D.length + x.toNat % (M.length + 1), ?_, by omega, ?_⟩, Or.inl ⟨by omega, hM⟩⟩
      · rw [e]
        unfold tearN
        simp [hx, hp]
      · have := Nat.mod_lt x.toNat (show 0 < M.length + 1 by omega)
        simp
        omega
set_option maxRecDepth 100000 in
set_option maxHeartbeats 6400000 in
theorem law_safe (D M : ByteArray) (x : Int) (hD : D.size ≤ 140737488351232) (hM : M.size ≤ 140737488351232) (w : World) :
    Calls Try.prog 6 #[.string D, .string M, .int .i64 x] w fun e w' => e = .returned (.bool true) ∧ Below w.heap.size w w' := by
  have hw : IntKind.i64.wrap ((D.size : Int) + M.size) = (D.size : Int) + M.size := by rw [IntKind.wrap_i64] <;> omega
  by_cases hlong : 262144 < D.size + M.size
  · have hlong' : (262144 : Int) < (D.size : Int) + M.size := by omega
    clear hlong
    go_enter Try.func6, Try.ntmps6
    go_wp2_with fail
    refine (New_d w).mono ?_
    rintro e w0 ⟨d, rfl, h0, hb0⟩
    go_wp2_with fail
    refine (works_any w0).mono ?_
    rintro e w1 ⟨rfl, hb1⟩
    have b1 := bthen hb0 hb1 hb0.size
    go_wp2_with fail
    go_ret
    exact ⟨rfl, b1⟩
  · have hlong' : ¬ (262144 : Int) < (D.size : Int) + M.size := by omega
    have hdl : D.data.toList.length = D.size := by rw [Array.length_toList]; rfl
    have hml : M.data.toList.length = M.size := by rw [Array.length_toList]; rfl
    have E1 := Lib.hid (wr0 D.data.toList (by omega))
    have E2 := Lib.hid (sy0 D.data.toList [] false (-1) (Or.inl rfl))
    have E3 := Lib.hid (ap0 D.data.toList M.data.toList (by omega))
    have E4 := Lib.hid (wr1 (D.data.toList ++ M.data.toList) D.data.toList M.data.toList (by omega))
    have E5 := Lib.hid (sy1 (D.data.toList ++ M.data.toList) D.data.toList M.data.toList)
    obtain ⟨fa, fb, he6⟩ := cr0 D.data.toList M.data.toList x
    have E6 := Lib.hid he6
    have ES := Lib.hid (saf_is D.data.toList M.data.toList x)
    obtain ⟨R, HR⟩ := named (safR D.data.toList M.data.toList x)
    rw [HR.out] at E6 ES
    clear he6 hlong hdl hml
    go_enter Try.func6, Try.ntmps6
    go_wp2_with fail
    refine (New_d w).mono ?_
    rintro e w0 ⟨d, rfl, h0, hb0⟩
    go_wp2_with fail
    refine (works_any w0).mono ?_
    rintro e w1 ⟨rfl, hb1⟩
    have b1 := bthen hb0 hb1 hb0.size
    have HC := Lib.hid (Write_d (h0.on hb1) ⟨#[97]⟩ D (by decide) hD)
    rw [show (⟨#[97]⟩ : ByteArray).data.toList = [97] from rfl, E1.out.1, E1.out.2] at HC
    clear h0 hb0 hb1
    go_wp2_with fail
    refine HC.out.mono ?_
    rintro e w2 ⟨rfl, h2, hb2⟩
    have b2 := b1.trans hb2
    have HC2 := Lib.hid (Sync_d h2 ⟨#[97]⟩ (by decide))
    rw [show (⟨#[97]⟩ : ByteArray).data.toList = [97] from rfl, E2.out.1, E2.out.2] at HC2
    clear h2 hb2 b1 HC
    go_wp2_with fail
    refine HC2.out.mono ?_
    rintro e w3 ⟨rfl, h3, hb3⟩
    have b3 := b2.trans hb3
    have HC3 := Lib.hid (Append_d h3 ⟨#[97]⟩ M (by decide) hM)
    rw [show (⟨#[97]⟩ : ByteArray).data.toList = [97] from rfl, show (if (0 : Int) < -1 then (-1 : Int) - 1 else -1) = -1 from rfl, E3.out.1, E3.out.2] at HC3
    clear h3 hb3 b2 HC2
    go_wp2_with fail
    refine HC3.out.mono ?_
    rintro e w4 ⟨rfl, h4, hb4⟩
    have b4 := b3.trans hb4
    have HC4 := Lib.hid (Write_d h4 ⟨#[98]⟩ M (by decide) hM)
    rw [show (⟨#[98]⟩ : ByteArray).data.toList = [98] from rfl, E4.out.1, E4.out.2] at HC4
    clear h4 hb4 b3 HC3
    go_wp2_with fail
    refine HC4.out.mono ?_
    rintro e w5 ⟨rfl, h5, hb5⟩
    have b5 := b4.trans hb5
    have HC5 := Lib.hid (Sync_d h5 ⟨#[98]⟩ (by decide))
    rw [show (⟨#[98]⟩ : ByteArray).data.toList = [98] from rfl, E5.out.1, E5.out.2] at HC5
    clear h5 hb5 b4 HC4
    go_wp2_with fail
    refine HC5.out.mono ?_
    rintro e w6 ⟨rfl, h6, hb6⟩
    have b6 := b5.trans hb6
    have HC6 := Lib.hid (Crash1_d h6 x)
    rw [E6.out] at HC6
    clear h6 hb6 b5 HC5
    go_wp2_with fail
    refine HC6.out.mono ?_
    rintro e w7 ⟨rfl, h7, hb7⟩
    have b7 := b6.trans hb7
    have HC7 := Lib.hid (Read_d h7 ⟨#[97]⟩ (by decide))
    have HC8 := Lib.hid (Read_d h7 ⟨#[98]⟩ (by decide))
    rw [show (⟨#[97]⟩ : ByteArray).data.toList = [97] from rfl, show rdT ⟨[⟨[97], R, fa, true⟩, ⟨[98], M.data.toList, fb, true⟩], false, -1⟩ [97] = R from rfl, show knE ⟨[⟨[97], R, fa, true⟩, ⟨[98], M.data.toList, fb, true⟩], false, -1⟩ [97] = 0 from rfl] at HC7
    rw [show (⟨#[98]⟩ : ByteArray).data.toList = [98] from rfl, show rdT ⟨[⟨[97], R, fa, true⟩, ⟨[98], M.data.toList, fb, true⟩], false, -1⟩ [98] = M.data.toList from rfl, show knE ⟨[⟨[97], R, fa, true⟩, ⟨[98], M.data.toList, fb, true⟩], false, -1⟩ [98] = 0 from rfl, show (⟨M.data.toList.toArray⟩ : ByteArray) = M by simp] at HC8
    clear h7 hb7 b6 HC6
    go_wp2_with fail
    refine HC7.out.mono ?_
    rintro e w8 ⟨rfl, rfl⟩
    go_wp2_with fail
    refine HC8.out.mono ?_
    rintro e w8 ⟨rfl, rfl⟩
    obtain ⟨⟨k, hk1, hk2, hk3⟩, hk4⟩ := ES.out
    have HSZ : Hid ((⟨R.toArray⟩ : ByteArray).size = k) := by
      show R.toArray.size = k
      rw [hk1]
      simp at hk3 ⊢
      omega
    have hf1 : ¬ ((D.size : Int) + M.size < ((⟨R.toArray⟩ : ByteArray).size : Int)) := by
      rw [HSZ.out]
      simp at hk3
      have : D.data.size = D.size := rfl
      have : M.data.size = M.size := rfl
      omega
    have hf2 : ¬ (((⟨R.toArray⟩ : ByteArray).size : Int) < D.size) := by
      rw [HSZ.out]
      simp at hk2
      have : D.data.size = D.size := rfl
      omega
    have hf3 : (D ++ M).extract 0 (⟨R.toArray⟩ : ByteArray).size = ⟨R.toArray⟩ := by
      rw [HSZ.out]
      apply ByteArray.ext
      apply Array.ext'
      show ((D ++ M).extract 0 k).data.toList = R.toArray.toList
      rw [hk1]
      simp [List.take_append]
    have hfin : (0 ≤ x ∧ (0 : Int) < M.size) ∨ (⟨R.toArray⟩ : ByteArray) = D := by
      rcases hk4 with ⟨h1, h2⟩ | h1
      · left
        refine ⟨h1, ?_⟩
        have : M.data.toList.length ≠ 0 := fun e => h2 (List.eq_nil_of_length_eq_zero e)
        have h3 : M.data.toList.length = M.size := by rw [Array.length_toList]; rfl
        omega
      · right
        rw [h1]
    clear hk1 hk2 hk3 hk4 E1 E2 E3 E4 E5 E6 ES HC7 HC8 HSZ HR
    generalize (⟨R.toArray⟩ : ByteArray) = sR at *
    rcases hfin with ⟨g1, g2⟩ | g1
    · have g3 : 0 < M.size := by omega
      go_wp2_with fail
      go_ret
      exact ⟨rfl, b7⟩
    · have hq : (sR.toList == D.toList) = true := by rw [g1]; simp
      clear g1
      by_cases g2 : 0 ≤ x
      · by_cases g3 : 0 < M.size
        · go_wp2_with fail
          go_ret
          exact ⟨rfl, b7⟩
        · go_wp2_with fail
          go_ret
          exact ⟨rfl, b7⟩
      · go_wp2_with fail
        go_ret
        exact ⟨rfl, b7⟩
end Go.Proofs.Ytlbkmhlpgpfafaa
