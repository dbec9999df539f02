/-
  Contracts of (*Net).turn, Up, Now, isAhead; among.
-/
import Derived.Test.YtfhlfklgngpklaaGiv
namespace Go.Proofs.Ytfhlfklgngpklaa
open Go.RowKit Go.Maps
/-- What turn answers and leaves. -/
def NS.turn (S : NS) (a : Int) (x : Bool) : NS := { S with dn := S.dn.set a.toNat x }
def tuE (S : NS) (a : Int) (x : Bool) : Int := if ndB S.N a = true then (if isDn S a = x then 191 else 0) else 190
def tuS (S : NS) (a : Int) (x : Bool) : NS := if tuE S a x = 0 then S.turn a x else S
section
variable {w w' : World} {n : Nat} {P : Nat → Prop} {S : NS} {db mb : Nat} {tv : Value} {sv : Pr → Value} {D : DataW Unit} {k : Nat}
theorem NTx.turned (h : NTx w n P S db mb tv sv D k) (i : Nat) (x : Bool) (hw : w' = w.setCell ⟨db, i, none⟩ (.bool x)) : NTx w' n P (S.turn i x) db mb tv sv D k ∧ Fr P w w' := by
  subst hw
  have hf : Fr (fun b => b = db) w (w.setCell ⟨db, i, none⟩ (.bool x)) := (Fr.refl _ _).setCell _ _ (Or.inl rfl)
  have hs : ∀ b, b ≠ db → (w.setCell ⟨db, i, none⟩ (.bool x)).heap[b]? = w.heap[b]? := fun b hb => Below.heap_setCell _ _ _ _ hb
  have nd : ∀ {j cur t z}, w.heap[j]? = some (.cells cur t z) → t ≠ 4 → j ≠ db := fun hj ht e => by
    subst e
    rw [h.hd] at hj
    injection hj with hj
    injection hj with _ hj _
    exact ht hj.symm
  refine ⟨⟨(hs n (nd h.hn (by decide))).trans h.hn, ?_, by show (S.dn.set _ _).length = S.N; rw [List.length_set]; exact h.hl, h.hN, ?_, ?_, ?_, h.rd, h.has, h.key, h.ap, h.short, h.few, h.now0, h.on, h.od, h.om, h.ot, h.os, fun b hb => ?_⟩, hf.mono (fun b e => by rw [e]; exact h.od)⟩
  · show (w.setCell ⟨db, i, none⟩ (.bool x)).heap[db]? = some (.cells (boolsC (S.dn.set i x)).toArray 4 (0, 0))
    rw [setCell_eq_setRow w db i _ 4 (0, 0) _ h.hd, setRow_heap w db _ _ 4 (0, 0) h.hd]
    congr 2
    apply Array.ext'
    simp [boolsC, List.map_set]
  · refine ownsMap_same h.hm (hs mb (fun e => ?_))
    obtain ⟨es, clock, hb, r⟩ := h.hm
    rw [e, h.hd] at hb
    cases hb
  · refine ownsRow_same h.ht (fun g hg => hs g ?_)
    rcases h.ht.2 with ⟨e2, _⟩ | ⟨g', cap, cur, e2, h2, h3, h4⟩
    · rw [e2] at hg; cases hg
    · rw [e2] at hg
      injection hg with hg
      subst hg
      exact nd h3 (by decide)
  · intro p hp
    refine ownsRow_same (h.row p hp) (fun g hg => hs g ?_)
    rcases (h.row p hp).2 with ⟨e2, _⟩ | ⟨g', cap, cur, e2, h2, h3, h4⟩
    · rw [e2] at hg; cases hg
    · rw [e2] at hg
      injection hg with hg
      subst hg
      exact nd h3 (by decide)
  · have := h.lt b hb
    simpa using this
theorem NTx.self (h : NTx w n P S db mb tv sv D k) : To w w n P S := h.nt.to (Below.refl _ _)
set_option maxRecDepth 100000 in
set_option maxHeartbeats 800000 in
theorem turn_any (h : NTx w n P S db mb tv sv D k) (a : Int) (x : Bool) :
    Calls Try.prog 43 #[.pointer (some ⟨n, 0, none⟩), .int .i64 a, .bool x] w fun e w' => e = .returned (.int .i64 (tuE S a x)) ∧ To w w' n P (tuS S a x) ∧ (tuE S a x = 0 → ∃ k', NTx w' n P (S.turn a x) db mb tv sv D k') ∧ (tuE S a x ≠ 0 → w' = w) := by
  have HK := Lib.hid (isNode_any (cells4 h.hn).1.1 a)
  have HT := Lib.hid h.self
  by_cases hI : ndB S.N a = true
  · rw [hI] at HK
    have hI2 : 0 ≤ a ∧ a < S.N := by simpa [ndB] using hI
    obtain ⟨i, rfl⟩ := Int.eq_ofNat_of_zero_le hI2.1
    have hi : i < S.N := by omega
    have hiI : (i : Int) < S.N := by omega
    obtain ⟨c0, c1, c2, c3⟩ := (cells4 h.hn).1
    have z := h.dnc i hi
    have zf : w.frozen? ⟨db, i, none⟩ = false := by simp [World.frozen?, h.hd]
    have hdn := isDn S (i : Int)
    by_cases hd : isDn S (i : Int) = x
    · have e1 : tuE S i x = 191 := by unfold tuE; rw [if_pos hI, if_pos hd]
      have e2 : tuS S i x = S := by unfold tuS; rw [e1]; rfl
      rw [e1, e2]
      rw [hd] at z
      have he : (x == x) = true := by cases x <;> rfl
      clear h hI hd e1 e2 hI2 hdn
      go_enter Try.func43, Try.ntmps43
      go_wp2_with fail
      refine HK.out.mono ?_
      rintro e w1 ⟨rfl, rfl⟩
      go_wp2_with fail
      go_ret
      exact ⟨rfl, HT.out, fun h => absurd h (by decide), fun _ => rfl⟩
    · have e1 : tuE S i x = 0 := by unfold tuE; rw [if_pos hI, if_neg hd]
      have e2 : tuS S i x = S.turn i x := by unfold tuS; rw [e1]; rfl
      rw [e1, e2]
      have he : (isDn S (i : Int) == x) = false := by
        cases h1 : isDn S (i : Int) <;> cases x <;> simp_all
      have HU := Lib.hid (h.turned i x rfl)
      generalize isDn S (i : Int) = y at *
      clear h hI hd e1 e2 hI2 hdn
      go_enter Try.func43, Try.ntmps43
      go_wp2_with fail
      refine HK.out.mono ?_
      rintro e w1 ⟨rfl, rfl⟩
      cases y <;> cases x <;> first | (exact absurd he (by decide)) | (
        go_wp2_with fail
        go_ret
        exact ⟨rfl, ⟨P, HU.out.1.nt, fun b e => Or.inl e, HU.out.2⟩, fun _ => ⟨_, HU.out.1⟩, fun h => absurd rfl h⟩)
  · have hI0 : ndB S.N a = false := by simpa using hI
    rw [hI0] at HK
    have e1 : tuE S a x = 190 := by unfold tuE; rw [if_neg hI]
    have e2 : tuS S a x = S := by unfold tuS; rw [e1]; rfl
    rw [e1, e2]
    clear h hI hI0 e1 e2
    go_enter Try.func43, Try.ntmps43
    go_wp2_with fail
    refine HK.out.mono ?_
    rintro e w1 ⟨rfl, rfl⟩
    go_wp2_with fail
    go_ret
    exact ⟨rfl, HT.out, fun h => absurd h (by decide), fun _ => rfl⟩
theorem Up_any (h : NTx w n P S db mb tv sv D k) (a : Int) :
    Calls Try.prog 20 #[.pointer (some ⟨n, 0, none⟩), .int .i64 a] w fun e w' => e = .returned (.int .i64 (tuE S a false)) ∧ To w w' n P (tuS S a false) := by
  have HK := Lib.hid (turn_any h a false)
  clear h
  go_enter Try.func20, Try.ntmps20
  go_wp2_with fail
  refine HK.out.mono ?_
  rintro e w1 ⟨rfl, h1, _⟩
  have HT := Lib.hid h1
  clear h1
  go_wp2_with fail
  go_ret
  exact ⟨rfl, HT.out⟩
theorem Now_any (h : NTx w n P S db mb tv sv D k) : Calls Try.prog 25 #[.pointer (some ⟨n, 0, none⟩)] w fun e w' => e = .returned (.int .i64 S.now) ∧ w' = w := by
  obtain ⟨c0, c1, c2, c3⟩ := (cells4 h.hn).1
  go_enter Try.func25, Try.ntmps25
  go_wp2_with fail
  go_ret
  exact ⟨rfl, rfl⟩
end
/-- A number from 0 to n - 1. -/
def amg (x : Int) (n : Nat) : Int := x % (n : Int)
theorem tmod_amg (x : Int) (n : Nat) : (x.tmod n + n) % (n : Int) = amg x n := by
  unfold amg
  rw [Int.add_emod_right]
  have h := Int.mul_tdiv_add_tmod x n
  conv => rhs; rw [← h]
  rw [Int.mul_add_emod_self_left]
theorem tmod_bd (x : Int) (n : Nat) (hn : 0 < n) : -(n : Int) < x.tmod n ∧ x.tmod n < n := ⟨Int.lt_tmod_of_pos x (by omega), Int.tmod_lt_of_pos x (by omega)⟩
theorem amg_bd (x : Int) (n : Nat) (hn : 0 < n) : 0 ≤ amg x n ∧ amg x n < n := ⟨Int.emod_nonneg _ (by omega), Int.emod_lt_of_pos _ (by omega)⟩
theorem among_any (x : Int) (n : Nat) (hn : 0 < n) (hn2 : n ≤ 1000) (w : World) :
    Calls Try.prog 17 #[.int .i64 x, .int .i64 n] w fun e w' => e = .returned (.int .i64 (amg x n)) ∧ w' = w := by
  have h1 := tmod_bd x n hn
  have H2 := Lib.hid (tmod_amg x n)
  have hz : ((n : Int) == 0) = false := by simp; omega
  go_enter Try.func17, Try.ntmps17
  go_wp2_with fail
  go_ret
  rw [← H2.out]
  exact ⟨rfl, rfl⟩
/-- Does a timer stand ahead of another one? -/
def ahT (t u : Tm) : Bool := if t.at_ = u.at_ then decide (t.nd < u.nd) else decide (t.at_ < u.at_)
theorem ahead_any (t u : Tm) (w : World) :
    Calls Try.prog 54 #[.agg #[.int .i64 t.nd, .int .i64 t.at_, .int .i64 t.tg], .agg #[.int .i64 u.nd, .int .i64 u.at_, .int .i64 u.tg]] w fun e w' => e = .returned (.bool (ahT t u)) ∧
      w' = (w.alloc (.cells #[.int .i64 t.nd, .int .i64 t.at_, .int .i64 t.tg] 53)).alloc (.cells #[.int .i64 u.nd, .int .i64 u.at_, .int .i64 u.tg] 53) := by
  obtain ⟨a, b, c⟩ := t
  obtain ⟨x, y, z⟩ := u
  by_cases h : b = y
  · rw [show ahT ⟨a, b, c⟩ ⟨x, y, z⟩ = decide (a < x) by simp [ahT, h]]
    subst h
    by_cases hl : a < x
    · rw [show decide (a < x) = true by simp [hl]]
      go_enter Try.func54, Try.ntmps54
      go_wp2_with fail
      go_ret
      exact ⟨rfl, rfl⟩
    · rw [show decide (a < x) = false by simp [hl]]
      go_enter Try.func54, Try.ntmps54
      go_wp2_with fail
      go_ret
      exact ⟨rfl, rfl⟩
  · rw [show ahT ⟨a, b, c⟩ ⟨x, y, z⟩ = decide (b < y) by simp [ahT, h]]
    by_cases hl : b < y
    · rw [show decide (b < y) = true by simp [hl]]
      go_enter Try.func54, Try.ntmps54
      go_wp2_with fail
      go_ret
      exact ⟨rfl, rfl⟩
    · rw [show decide (b < y) = false by simp [hl]]
      go_enter Try.func54, Try.ntmps54
      go_wp2_with fail
      go_ret
      exact ⟨rfl, rfl⟩
end Go.Proofs.Ytfhlfklgngpklaa
