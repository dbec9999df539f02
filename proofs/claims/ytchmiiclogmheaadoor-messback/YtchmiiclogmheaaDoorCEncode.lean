/-
  Contract of code.Encode: the bytes of an item, or what is wrong with it.
-/
import Derived.Test.YtchmiiclogmheaaDoorCAppend
namespace Go.Proofs.YtchmiiclogmheaaDoor.C2
open Go.RowKit
/-- What Encode answers. -/
def encD (t : T) : List UInt8 × Int :=
  if wrongF 8 t ≠ 0 then ([], wrongF 8 t) else if 262144 < (appF 8 [] t).length then ([], 2) else (appF 8 [] t, 0)
def encV (r : List UInt8 × Int) : Value := .tuple #[.string ⟨r.1.toArray⟩, .int .i64 r.2]
set_option maxRecDepth 100000 in
set_option maxHeartbeats 400000 in
theorem encode_at (t : T) (k n : Int) (s : ByteArray) (a : Option Addr) (m cap : Nat) (hv : t.val = .agg #[.int .i64 k, .int .u64 n, .string s, .slice a m cap]) (w : World) (hin : InF w 8 t) :
    Calls Tryd.prog 30 #[.agg #[.int .i64 k, .int .u64 n, .string s, .slice a m cap]] w fun e w' => e = .returned (encV (encD t)) ∧ Below w.heap.size w w' := by
  have hc := fun w h => check_any 8 (by decide) t w h
  have hap := append_any 8 w t hin
  rw [hv] at hc hap
  rw [show (9 : Int) - ((8 : Nat) : Int) = 1 from rfl] at hc
  have HC := Lib.hid hc
  have HA := Lib.hid hap
  have HIN := Lib.hid hin
  clear hc hap hin hv
  unfold encD encV
  obtain ⟨r, HR⟩ := named (wrongF 8 t)
  rw [HR.out]
  by_cases hr : r = 0
  · rw [if_neg (by omega)]
    subst hr
    obtain ⟨L, HL⟩ := named (appF 8 [] t)
    rw [HL.out]
    have hL : L.length ≤ 600000 := by rw [← HL.out]; exact appF_len 8 t [] (by simp)
    have H0 : Hid (∀ v w', Below w.heap.size w w' → OwnB w' w.heap.size v [] → w.heap.size ≤ w'.heap.size → Calls Tryd.prog 51 #[v, .agg #[.int .i64 k, .int .u64 n, .string s, .slice a m cap]] w' fun e w'' => ∃ v', e = .returned v' ∧ OwnB w'' w.heap.size v' L ∧ Fr w.heap.size w' w'') := by
      show ∀ v w', _
      intro v w' h1 h2 h3
      rw [← HL.out]
      exact HA.out HR.out v [] w' h1 h2 h3 (by simp)
    clear HA HL
    by_cases hl : 262144 < L.length
    all_goals
      first | rw [if_pos hl] | rw [if_neg hl]
      go_enter Tryd.func30, Tryd.ntmps30
      go_wp2_with fail
      refine (HC.out _ (HIN.out.on ((Below.refl _ _).alloc (Nat.le_refl _) _))).mono ?_
      rintro e w1 ⟨rfl, hb1⟩
      rw [HR.out]
      obtain ⟨q0, q1, q2, q3⟩ := bcell4 hb1 (by simp)
      have hbw : Below w.heap.size w w1 := ((Below.refl _ _).alloc (Nat.le_refl _) _).trans (hb1.mono (by simp))
      clear hb1
      go_wp2_with fail
      refine (H0.out _ _ hbw (OwnB.nil _ _) hbw.size).mono ?_
      rintro e w2 ⟨v2, rfl, hown, hfr⟩
      have hcv := conv_own hown
      obtain ⟨p, c, hs⟩ := hown.shape
      subst hs
      clear hown
      obtain ⟨bs, HB⟩ := named (⟨L.toArray⟩ : ByteArray)
      rw [HB.out] at hcv
      have hl' : (262144 : Int) < L.length ∨ ¬ (262144 : Int) < L.length := by omega
      first | have hl2 : (262144 : Int) < L.length := (by omega) | have hl2 : ¬ (262144 : Int) < L.length := (by omega)
      clear hl'
      go_wp2_with fail
      go_ret2
      first | exact ⟨rfl, hbw.trans hfr.below⟩ | exact ⟨by rw [HB.out]; rfl, hbw.trans hfr.below⟩
  · rw [if_pos hr]
    have hr' : (r == 0) = false := beq_eq_false_iff_ne.2 hr
    go_enter Tryd.func30, Tryd.ntmps30
    go_wp2_with fail
    refine (HC.out _ (HIN.out.on ((Below.refl _ _).alloc (Nat.le_refl _) _))).mono ?_
    rintro e w1 ⟨rfl, hb1⟩
    rw [HR.out]
    go_wp2_with fail
    go_ret2
    exact ⟨rfl, ((Below.refl _ _).alloc (Nat.le_refl _) _).trans (hb1.mono (by simp))⟩
set_option maxRecDepth 100000 in
theorem encode_any (t : T) (w : World) (hin : InF w 8 t) :
    Calls Tryd.prog 30 #[t.val] w fun e w' => e = .returned (encV (encD t)) ∧ Below w.heap.size w w' := encode_at t _ _ _ _ _ _ rfl w hin
end Go.Proofs.YtchmiiclogmheaaDoor.C2
