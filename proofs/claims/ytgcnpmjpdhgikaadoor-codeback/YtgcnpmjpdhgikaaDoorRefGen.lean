/-
  Contracts of the reference's Size and write, in general, and of its Encode.
-/
import Derived.Test.YtgcnpmjpdhgikaaDoorRefText
import Derived.Test.YtgcnpmjpdhgikaaDoorRefEnc
namespace Go.Proofs.YtgcnpmjpdhgikaaDoor
open Go.RowKit
theorem sizeF_bd {w : World} (f : Nat) : ∀ t : T, InF w f t → wrongF f t = 0 → sizeF f t ≤ 140737488360000 + f * 262144 := by
  induction f with
  | zero => intro t _ h; unfold wrongF at h; omega
  | succ f ih =>
    intro t hin hw
    obtain ⟨hk, hm, hmem⟩ := wrong_parts hw
    unfold sizeF
    have h1 := (numD_len t.n.toNat).2
    have h2 := (numD_len t.s.size).2
    have h3 := (numD_len t.l.length).2
    have h4 := hin.1.2.2.1
    split
    · omega
    · split
      · omega
      · have := loopS_le (Z := fun j => sizeF f (t.m j)) (m := t.l.length) (B := 140737488360000 + f * 262144) (fun j hj => ih (t.m j) (hin.mem hj) (hmem j hj)) (x := 1 + (numD t.l.length).length) (by omega)
        omega
theorem size_any (f : Nat) : f ≤ 8 → ∀ (t : T) (w : World), InF w f t → wrongF f t = 0 →
    Calls Tryd.prog 29 #[t.val] w fun e w' => e = .returned (.int .i64 (sizeF f t : Nat)) ∧ Below w.heap.size w w' := by
  induction f with
  | zero => intro _ t w _ h; unfold wrongF at h; omega
  | succ f ih =>
    intro hf t w hin hw
    obtain ⟨hk, hm, hmem⟩ := wrong_parts hw
    have hk' : keepsB t.k t.n t.s t.l.length = true := hk
    unfold sizeF
    rcases keeps_cases hk' with ⟨h1, h2, h3⟩ | ⟨h1, h2, h3⟩ | ⟨h1, h2, h3⟩
    · rw [if_pos h1]
      have a1 := hin.1.1
      have a2 := hin.1.2.1
      have h := size_num t.n.toNat (by omega) t.s t.a t.cap w
      rw [Int.toNat_of_nonneg a1, ← h1, ← h3] at h
      exact h
    · rw [if_neg (by omega), if_pos h1]
      have h := size_text t.n t.s hin.1.2.2.1 t.a t.cap w
      rw [← h1, ← h3] at h
      exact h
    · rw [if_neg (by omega), if_neg (by omega)]
      obtain ⟨b, o, ha, hat⟩ := hin.cells
      have h := size_list t.n t.s t.a b o t.l.length t.cap ha hm w (fun j => (t.m j).k) (fun j => (t.m j).n) (fun j => (t.m j).s) (fun j => (t.m j).a) (fun j => (t.m j).l.length) (fun j => (t.m j).cap) (fun j => sizeF f (t.m j))
        (fun j hj => by have := sizeF_bd f (t.m j) (hin.mem hj) (hmem j hj); omega) hat (fun j hj w' hb => ih (by omega) (t.m j) w' ((hin.mem hj).on hb) (hmem j hj))
      rw [← h1] at h
      exact h
theorem write_any (f : Nat) : ∀ (W : World) (t : T), InF W f t → wrongF f t = 0 → ∀ (v : Value) (acc : List UInt8) (w : World), Below W.heap.size W w → OwnB w W.heap.size v acc → W.heap.size ≤ w.heap.size → acc.length + (encF f t).length ≤ 262144 →
    Calls Tryd.prog 30 #[v, t.val] w fun e w' => ∃ v', e = .returned v' ∧ OwnB w' W.heap.size v' (acc ++ encF f t) ∧ Fr W.heap.size w w' := by
  induction f with
  | zero => intro W t _ h; unfold wrongF at h; omega
  | succ f ih =>
    intro W t hin hw v acc w hb hown hB hl
    obtain ⟨hk, hm, hmem⟩ := wrong_parts hw
    unfold encF at hl ⊢
    rcases keeps_kind hk with h | h | h
    · rw [if_pos h] at hl ⊢
      have h1 := hin.1.1
      have h2 := hin.1.2.1
      have := wr_num W.heap.size v acc t.n.toNat (by omega) t.s t.a t.l.length t.cap w hown hB (by omega)
      rw [Int.toNat_of_nonneg h1, ← h] at this
      rw [show acc ++ (1 :: numD t.n.toNat) = (acc ++ [1]) ++ numD t.n.toNat by simp]
      exact this
    · rw [if_neg (by omega), if_pos h] at hl ⊢
      have := wr_text W.heap.size v acc t.n t.s t.a t.l.length t.cap w hown hB (by simp at hl; omega)
      rw [← h] at this
      rw [show acc ++ (2 :: (numD t.s.size ++ t.s.data.toList)) = ((acc ++ [2]) ++ numD t.s.size) ++ t.s.data.toList by simp]
      exact this
    · rw [if_neg (by omega), if_neg (by omega)] at hl ⊢
      obtain ⟨b, o, ha, hat⟩ := hin.low
      have := wr_list W.heap.size v acc t.n t.s t.a b o t.l.length t.cap ha hm w hown hB (by omega) (fun j => (t.m j).k) (fun j => (t.m j).n) (fun j => (t.m j).s) (fun j => (t.m j).a) (fun j => (t.m j).l.length) (fun j => (t.m j).cap) (fun j => encF f (t.m j)) (by simp at hl ⊢; omega)
        (fun j hj => ⟨(hat j hj).1, (hat j hj).2.on hb⟩) (fun j hj v' x w' hb' ho' hB' hx' => ih W (t.m j) (hin.mem hj) (hmem j hj) v' x w' (hb.trans hb') ho' hB' hx')
      rw [← h] at this
      rw [show acc ++ (3 :: (numD t.l.length ++ catE (fun j => encF f (t.m j)) t.l.length)) = ((acc ++ [3]) ++ numD t.l.length) ++ catE (fun j => encF f (t.m j)) t.l.length by simp]
      exact this
set_option maxHeartbeats 800000 in
theorem rencode_at (t : T) (k n : Int) (s : ByteArray) (a : Option Addr) (m cap : Nat) (hv : t.val = .agg #[.int .i64 k, .int .u64 n, .string s, .slice a m cap]) (w : World) (hin : InF w 8 t) :
    Calls Tryd.prog 10 #[.agg #[.int .i64 k, .int .u64 n, .string s, .slice a m cap]] w fun e w' => e = .returned (encV (encD t)) ∧ Below w.heap.size w w' := by
  have hc := fun w h => rwrong_any 8 (by decide) t w h
  have hsz := fun h w h' => size_any 8 (by decide) t w h' h
  have hwr := fun h => write_any 8 w t hin h
  have hse := sizeF_enc 8 t
  rw [hv] at hc hsz hwr
  rw [show (9 : Int) - ((8 : Nat) : Int) = 1 from rfl] at hc
  have HC := Lib.hid hc
  have HIN := Lib.hid hin
  have HS := Lib.hid hsz
  have HW := Lib.hid hwr
  have HSE := Lib.hid hse
  clear hc hin hv hsz hwr hse
  rw [encD_eq]
  unfold encV
  obtain ⟨r, HR⟩ := named (wrongF 8 t)
  rw [HR.out]
  by_cases hr : r = 0
  · rw [if_neg (by omega)]
    subst hr
    have HS1 := Lib.hid (HS.out HR.out)
    have HW1 := Lib.hid (HW.out HR.out)
    clear HS HW
    obtain ⟨Z, HZ⟩ := named (sizeF 8 t)
    obtain ⟨L, HL⟩ := named (encF 8 t)
    rw [HZ.out] at HS1
    rw [HL.out] at HW1 ⊢
    rw [HZ.out, HL.out] at HSE
    by_cases hl : 262144 < L.length
    · rw [if_pos hl]
      have hz : (262144 : Int) < Z := by have := HSE.out.2 hl; omega
      go_enter Tryd.func10, Tryd.ntmps10
      go_wp2_with fail
      refine (HC.out _ (HIN.out.on ((Below.refl _ _).alloc (Nat.le_refl _) _))).mono ?_
      rintro e w1 ⟨rfl, hb1⟩
      rw [HR.out]
      obtain ⟨q0, q1, q2, q3⟩ := bcell4 hb1 (by simp)
      have hbw : Below w.heap.size w w1 := ((Below.refl _ _).alloc (Nat.le_refl _) _).trans (hb1.mono (by simp))
      clear hb1
      go_wp2_with fail
      refine (HS1.out _ (HIN.out.on hbw)).mono ?_
      rintro e w2 ⟨rfl, hb2⟩
      go_wp2_with fail
      go_ret2
      exact ⟨rfl, hbw.trans (hb2.mono hbw.size)⟩
    · rw [if_neg hl]
      have hz : ¬ (262144 : Int) < Z := by have := HSE.out.1 (by omega); omega
      have hlt : w.heap.size < (w.alloc (.cells #[.int .i64 k, .int .u64 n, .string s, .slice a m cap] 25)).heap.size := by simp
      go_enter Tryd.func10, Tryd.ntmps10
      go_wp2_with fail
      refine (HC.out _ (HIN.out.on ((Below.refl _ _).alloc (Nat.le_refl _) _))).mono ?_
      rintro e w1 ⟨rfl, hb1⟩
      rw [HR.out]
      obtain ⟨q0, q1, q2, q3⟩ := bcell4 hb1 (by simp)
      have hbw : Below w.heap.size w w1 := ((Below.refl _ _).alloc (Nat.le_refl _) _).trans (hb1.mono (by simp))
      have hs1 := hb1.size
      go_wp2_with fail
      refine (HS1.out _ (HIN.out.on hbw)).mono ?_
      rintro e w2 ⟨rfl, hb2⟩
      have hb12 := hb1.trans (hb2.mono hs1)
      have hbw2 := hbw.trans (hb2.mono hbw.size)
      clear hb2 hb1 q0 q1 q2 q3
      obtain ⟨q0, q1, q2, q3⟩ := bcell4 hb12 (by simp)
      go_wp2_with fail
      refine (HW1.out _ [] _ hbw2 (OwnB.nil _ _) hbw2.size (by simp; omega)).mono ?_
      rintro e w3 ⟨v3, rfl, hown, hfr⟩
      rw [List.nil_append] at hown
      have hcv := conv_own hown
      obtain ⟨p, c, hs⟩ := hown.shape
      subst hs
      clear hown
      obtain ⟨bs, HB⟩ := named (⟨L.toArray⟩ : ByteArray)
      rw [HB.out] at hcv
      go_wp2_with fail
      go_ret2
      exact ⟨by rw [HB.out]; rfl, hbw2.trans hfr.below⟩
  · rw [if_pos hr]
    have hr' : (r == 0) = false := beq_eq_false_iff_ne.2 hr
    go_enter Tryd.func10, Tryd.ntmps10
    go_wp2_with fail
    refine (HC.out _ (HIN.out.on ((Below.refl _ _).alloc (Nat.le_refl _) _))).mono ?_
    rintro e w1 ⟨rfl, hb1⟩
    rw [HR.out]
    go_wp2_with fail
    go_ret2
    exact ⟨rfl, ((Below.refl _ _).alloc (Nat.le_refl _) _).trans (hb1.mono (by simp))⟩
end Go.Proofs.YtgcnpmjpdhgikaaDoor
