/-
  Contracts of a file's left and tear: what a crash leaves of it.
-/
import Derived.Test.YtlbkmhlpgpfafaaFil
namespace Go.Proofs.Ytlbkmhlpgpfafaa
open Go.RowKit Go.Maps
def frmN (p : PF) : Nat := if p.safe.isPrefixOf p.has then p.safe.length else 0
section
variable {w : World} {b : Nat} {hv sv : Value} {gh : Nat} {gs : Option Nat} {p : PF}
theorem FC.frm (h : FC w b hv sv gh gs p) : (if p.kept && p.safe.isPrefixOf p.has then p.safe.length else 0) = frmN p ∧ frmN p ≤ p.has.length := by
  have hp : p.safe.isPrefixOf p.has = true → p.safe.length ≤ p.has.length := fun h => (List.isPrefixOf_iff_prefix.1 h).length_le
  unfold frmN
  rcases h.safe with ⟨_, hk, _, hs⟩ | ⟨_, _, hk, _⟩
  · rw [hk, hs]
    simp
  · rw [hk, Bool.true_and]
    refine ⟨rfl, ?_⟩
    split
    · rename_i h'; exact hp h'
    · omega
theorem tearN_pos (h : FC w b hv sv gh gs p) (x : Nat) : tearN p x = p.has.take (frmN p + x % (p.has.length - frmN p + 1)) := by
  unfold tearN
  rw [if_neg (by omega), h.frm.1]
  simp
theorem tearN_neg (x : Int) (hx : x < 0) : tearN p x = p.safe := by
  unfold tearN
  rw [if_pos hx]
set_option maxRecDepth 100000 in
set_option maxHeartbeats 800000 in
theorem left_any (h : FC w b hv sv gh gs p) (x : Int) (hk : 0 ≤ x ∨ p.kept = true) :
    Calls Try.prog 59 #[.pointer (some ⟨b, 0, none⟩), .int .i64 x] w fun e w' => ∃ v' g', e = .returned v' ∧ BS w' v' g' (tearN p x) ∧ (tearN p x).length ≤ 262144 ∧ Below w.heap.size w w' := by
  obtain ⟨⟨c0, c1, c2⟩, f0, f1, f2⟩ := cells3 h.hd
  have hb := Lib.hid h.has
  obtain ⟨c, hhv, hnc, hcm⟩ := h.has.shape
  obtain ⟨a, c', hsv, hsb, hsl⟩ := h.sin
  by_cases hx : x < 0
  · rw [tearN_neg x hx]
    rcases h.safe with ⟨_, hk', _⟩ | ⟨g, _, _, hs, hl, _⟩
    · rcases hk with hk | hk
      · omega
      · rw [hk] at hk'; cases hk'
    · have HS := Lib.hid (And.intro hs hl)
      clear hs hl hk h
      subst hhv hsv
      go_enter Try.func59, Try.ntmps59
      go_wp2_with fail
      go_ret
      exact ⟨_, g, rfl, HS.out.1, HS.out.2, Below.refl _ _⟩
  · obtain ⟨X, rfl⟩ : ∃ X : Nat, x = X := ⟨x.toNat, by omega⟩
    rw [tearN_pos h X]
    have hF := h.frm.2
    have HP := Lib.hid (fun j : Nat => Try.bytes_HasPrefix_all (some ⟨gh, 0, none⟩) a p.has.length c p.safe.length c' (numsC p.has) (numsC p.safe) (w.drewN j) (numsC_len _) (numsC_len _) hnc h.has.bytesIn hsb)
    rw [numsC_bytes, numsC_bytes] at HP
    have HFE : Hid (frmN p = if Lib.hasPrefix p.has p.safe then p.safe.length else 0) := rfl
    have hl := h.hl
    have HT : Hid (∀ k, k ≤ p.has.length → BS w (.slice (some ⟨gh, 0, none⟩) k c) gh (p.has.take k) ∧ (p.has.take k).length ≤ 262144) := fun k hk => ⟨hb.out.take hhv k hk, by rw [List.length_take]; omega⟩
    subst hhv hsv
    generalize Lib.hasPrefix p.has p.safe = q at *
    generalize p.has.length = N at *
    generalize p.safe.length = M at *
    have fin : ∀ F : Nat, F ≤ N → Hid (frmN p = F) → Hid (F + X % (N - F + 1) ≤ N ∧ IntKind.i64.wrap ((N : Int) - F) = ((N - F : Nat) : Int) ∧ Int.tmod (X : Int) (((N - F : Nat) : Int) + 1) = ((X % (N - F + 1) : Nat) : Int)) := fun F hF _ => by
      have := Nat.mod_lt X (show 0 < N - F + 1 by omega)
      refine ⟨by omega, by rw [IntKind.wrap_i64] <;> omega, ?_⟩
      rw [show (((N - F : Nat) : Int) + 1) = ((N - F + 1 : Nat) : Int) by omega]
      rfl
    cases q with
    | true =>
      have HFE2 : Hid (frmN p = M) := HFE.out
      rw [HFE2.out] at hF ⊢
      obtain ⟨g1, g2, g3⟩ := (fin M hF HFE2).out
      clear fin HFE
      generalize HR : X % (N - M + 1) = R at *
      generalize HK : N - M = K at *
      go_enter Try.func59, Try.ntmps59
      go_wp2_with fail
      go_quiet ((go_at_call 64; exact Calls.quiet_of_same (HP.out _)))
      go_wp2_with fail
      go_quiet (fail)
      go_wp2_with fail
      go_ret
      exact ⟨_, gh, rfl, (HT.out _ g1).1.same rfl, (HT.out _ g1).2, below_drewN (below_drewN (Below.refl _ _) _) _⟩
    | false =>
      have HFE2 : Hid (frmN p = 0) := HFE.out
      obtain ⟨g1, g2, g3⟩ := (fin 0 (Nat.zero_le _) HFE2).out
      rw [HFE2.out]
      rw [Nat.sub_zero, Nat.zero_add] at g1
      rw [Nat.sub_zero] at g2 g3
      rw [Nat.zero_add, Nat.sub_zero]
      clear fin HFE hF
      generalize HR : X % (N + 1) = R at *
      have g4 : IntKind.i64.wrap (N : Int) = N := by rw [IntKind.wrap_i64] <;> omega
      go_enter Try.func59, Try.ntmps59
      go_wp2_with fail
      go_quiet ((go_at_call 64; exact Calls.quiet_of_same (HP.out _)))
      go_wp2_with fail
      go_quiet (fail)
      go_wp2_with fail
      go_ret
      exact ⟨_, gh, rfl, (HT.out _ g1).1.same rfl, (HT.out _ g1).2, below_drewN (below_drewN (Below.refl _ _) _) _⟩
set_option maxHeartbeats 800000 in
theorem tear_any (h : FC w b hv sv gh gs p) (x : Int) (hk : 0 ≤ x ∨ p.kept = true) :
    Calls Try.prog 44 #[.pointer (some ⟨b, 0, none⟩), .int .i64 x] w fun e w' => e = .returned (.tuple #[]) ∧ (∃ hv' g', FC w' b hv' hv' g' (some g') (tearF p x) ∧ w.heap.size ≤ g') ∧ Fr (fun k => k = b) w w' := by
  have HL := Lib.hid (left_any h x hk)
  have HC := Lib.hid h
  clear h
  go_enter Try.func44, Try.ntmps44
  go_wp2_with fail
  refine HL.out.mono ?_
  rintro e w1 ⟨v1, g1, rfl, hb1, hl1, hbl1⟩
  have HB1 := Lib.hid hb1
  go_wp2_with fail
  refine (clone_any hb1 hl1).mono ?_
  rintro e w2 ⟨v2, g2, rfl, hb2, hg2, hbl2⟩
  have hbl := bthen hbl1 hbl2 hbl1.size
  have hC2 := HC.out.on hbl
  obtain ⟨⟨c0, c1, c2⟩, f0, f1, f2⟩ := cells3 hC2.hd
  have hgb : g2 ≠ b := by
    have := HC.out.lt b (Or.inl rfl)
    have := hbl1.size
    omega
  have e1 : (w2.setCell ⟨b, 0, none⟩ v2).heap[b]? = some (.cells #[v2, sv, .bool p.kept] 67 (0, 0)) := by rw [heap_setCell_same w2 b 0 _ _ _ hC2.hd]; simp
  have eo : ∀ k, k ≠ b → (w2.setCell ⟨b, 0, none⟩ v2).heap[k]? = w2.heap[k]? := fun k hk => heap_setCell_other _ _ k _ hk
  have hC3 : FC (w2.setCell ⟨b, 0, none⟩ v2) b v2 sv g2 gs { p with has := tearN p x } := by
    refine ⟨e1, hb2.same (eo g2 hgb), hl1, ?_⟩
    rcases hC2.safe with h' | ⟨g, a, k, c, d, _⟩
    · exact Or.inl h'
    · refine Or.inr ⟨g, a, k, c.same (eo g (fun e => ?_)), d, fun e => ?_⟩
      · obtain ⟨cur, fz, hk⟩ := c.kind
        rw [e, hC2.hd] at hk
        cases hk
      · have := HC.out.lt g (Or.inr (Or.inr a))
        have := hbl1.size
        omega
  have HS := Lib.hid (sync_any hC3)
  have HF := Lib.hid (show Fr (fun k => k = b) w (w2.setCell ⟨b, 0, none⟩ v2) from (Fr.of hbl).setCell _ _ (Or.inl rfl))
  obtain ⟨cc, hv2, _, _⟩ := hb2.shape
  obtain ⟨nn, HN⟩ := named (tearN p x).length
  rw [HN.out] at hv2
  clear e1 eo hC3 hC2 hb1 hb2 hl1
  subst hv2
  go_wp2_with fail
  refine HS.out.mono ?_
  rintro e w3 ⟨rfl, hC4, ho4, hz4, hs4, ht4, hu4⟩
  go_wp2_with fail
  go_end0
  exact ⟨rfl, ⟨_, g2, hC4, by have := hbl1.size; omega⟩, HF.out.then ⟨hs4, ht4, hu4, by rw [hz4]; exact Nat.le_refl _, fun k _ hk => ho4 k hk⟩⟩
end
end Go.Proofs.Ytlbkmhlpgpfafaa
