/-
  bounded holds of labels that are right and under the bound.
-/
import Derived.Test.YtchfccbneedejaaZCB
import Derived.Test.YtchfccbneedejaaZAM
namespace Go.Proofs.Ytchfccbneedejaa
open Go.RowKit
theorem cnt_ok {n : Nat} {l : List A} {L : List Nat} (hC : chkE n l = 0) (hL : L.length = n) (hT : tdy (ints L) 0 = true) : cntE n l (ints L) = 0 := by
  unfold cntE
  rw [if_neg (by rw [hC]; simp), if_neg (by rw [ints_len, hL, hT]; simp)]
theorem siE_ok {n : Nat} {l : List A} {L : List Nat} (hC : chkE n l = 0) (hL : L.length = n) (hT : tdy (ints L) 0 = true) : siE n l (ints L) = 0 := by
  unfold siE szE
  rw [hC, if_neg (by simp), if_neg (by rw [ints_len, hL, hT]; simp)]
theorem take_sum {S : List Nat} {k : Nat} (h : k < S.length) : (S.take (k + 1)).sum = (S.take k).sum + S.getD k 0 := by
  rw [List.take_succ_eq_append_getElem h, List.sum_append]
  simp [List.getD, h]
theorem sum_take_le (S : List Nat) (k : Nat) : (S.take k).sum ≤ S.sum := by
  have h := congrArg List.sum (List.take_append_drop k S)
  rw [List.sum_append] at h
  omega
set_option maxRecDepth 100000 in
set_option maxHeartbeats 1600000 in
theorem bounded_any (n : Nat) (a : Option Addr) (l : List A) (cap : Nat) (b : Option Addr) (L : List Nat) (bc B : Nat) (w : World) (hC : chkE n l = 0) (hL : L.length = n) (hT : tdy (ints L) 0 = true) (hU : Und B L) (hr : Arcs w a l) (hi : Ints w b (ints L)) :
    Calls Try.prog 22 #[.agg #[.int .i64 n, .slice a l.length cap], .slice b L.length bc, .int .i64 B] w fun e w' => e = .returned (.bool true) ∧ Below w.heap.size w w' := by
  subst hL
  obtain ⟨h1n, hn, hl, hoa⟩ := chk_zero hC
  clear hoa
  have hn' : L.length ≤ 1024 := by omega
  have hb0 : Below w.heap.size w (w.alloc (.cells #[.int .i64 L.length, .slice a l.length cap] 24)) := (Below.refl _ _).alloc (Nat.le_refl _) _
  have hg := heap_top w (.cells #[.int .i64 L.length, .slice a l.length cap] 24)
  have HR := Lib.hid (hr.on hb0)
  have HI := Lib.hid (hi.on hb0)
  have HB0 := Lib.hid hb0
  have hwz : w.heap.size ≤ (w.alloc (.cells #[.int .i64 L.length, .slice a l.length cap] 24)).heap.size := hb0.size
  have HCN := Lib.hid (count_any L.length a l cap b (ints L) bc (w.alloc (.cells #[.int .i64 L.length, .slice a l.length cap] 24)) (by omega) (by rw [ints_len]; omega) HR.out HI.out)
  rw [cnt_ok hC rfl hT, if_pos rfl, ints_len] at HCN
  obtain ⟨cn, HCC⟩ := named (cntB (ints L) (prl l))
  rw [HCC.out] at HCN
  have HSI := Lib.hid (siE_ok hC rfl hT)
  have HSB : Hid (∀ j, j < (szL (ints L)).length → 1 ≤ (szL (ints L)).getD j 0 ∧ (szL (ints L)).getD j 0 ≤ B) := fun j hj => ⟨szL_one _ _ (by rw [getD_in hj]; exact List.getElem_mem _), sz_bound hT hU j⟩
  have HSM : Hid ((szL (ints L)).sum = L.length) := by
    have h := szL_sum hT L.length (Nat.le_refl _)
    rw [List.take_length] at h
    exact h
  have hSL : (szL (ints L)).length ≤ 1024 := Nat.le_trans (szL_length _) (by rw [ints_len]; exact hn')
  obtain ⟨S, HS⟩ := named (szL (ints L))
  rw [HS.out] at HSB HSM hSL
  clear hb0 hr hi hC hT hU
  generalize hp : w.heap.size = p at *
  have HG := Lib.hid hg
  obtain ⟨⟨c0, c1⟩, _⟩ := two_cells hg
  clear hg
  have hpW : p < (w.alloc (.cells #[.int .i64 L.length, .slice a l.length cap] 24)).heap.size := lt_of_block HG.out
  go_enter Try.func22, Try.ntmps22
  go_wp2_with fail
  generalize hW : w.alloc (.cells #[.int .i64 L.length, .slice a l.length cap] 24) = W at *
  clear hW
  refine HCN.out.mono ?_
  rintro e w1 ⟨rfl, hb1⟩
  have HB1 : Hid (Below p w w1) := HB0.out.trans (hb1.mono hwz)
  have HG1 := Lib.hid ((hb1.block p hpW).trans HG.out)
  obtain ⟨⟨d0, d1⟩, _⟩ := two_cells HG1.out
  have hp1 : p < w1.heap.size := lt_of_block HG1.out
  have HSZ := Lib.hid (sizes_any L.length a l cap b (ints L) bc w1 (by omega) (by rw [ints_len]; omega) (HR.out.on hb1) (HI.out.on hb1))
  rw [HSI.out, if_pos rfl, HS.out, ints_len] at HSZ
  clear hb1 HCN c0 c1 HG HB0 HR HI
  go_wp2_with fail
  refine HSZ.out.mono ?_
  rintro e w2 ⟨v2, c2, S', rfl, hown2, rfl, hb2⟩
  have HB2 : Hid (Below p w w2) := HB1.out.trans (hb2.mono (Nat.le_of_lt hp1))
  have HG2 := Lib.hid ((hb2.block p hp1).trans HG1.out)
  obtain ⟨⟨c0, c1⟩, _⟩ := two_cells HG2.out
  obtain ⟨ix, ox, hix⟩ := (own_ints hown2 rfl).get
  have HIX := Lib.hid hix
  clear hb2 hown2 HSZ d0 d1 hix
  go_wp2_with fail
  go_loopw [11, 30] (fun s i wr => ∃ k m : Nat, k ≤ S'.length ∧ i = .int .i64 k ∧ s = .int .i64 m ∧ Hid ((S'.take k).sum = m) ∧ Hid (wr = w2)) (fun _ i _ => S'.length - (intOf i).toNat)
  case atStart => exact ⟨0, 0, Nat.zero_le _, rfl, rfl, rfl, rfl⟩
  case round =>
    obtain ⟨k, m, hk, rfl, rfl, HM, HW⟩ := hrel
    have hm : m ≤ 1024 := by have h1 := sum_take_le S' k; have h2 := HSM.out; have h3 := HM.out; omega
    by_cases hlk : k < S'.length
    · have hlk' : (k : Int) < S'.length := by omega
      obtain ⟨rfl, hbl, hat⟩ := HIX.out (by rw [ints_len]; omega)
      have y0 := hat k (by rw [ints_len]; exact hlk)
      rw [ints_getD hlk, ← HW.out] at y0
      obtain ⟨b1, b2⟩ := HSB.out k hlk
      have HTS := Lib.hid (take_sum hlk)
      obtain ⟨x, HX⟩ := named (S'.getD k 0)
      rw [HX.out] at y0 b1 b2 HTS
      rw [HM.out] at HTS
      have hx2 : m + x ≤ 1024 := by have h1 := sum_take_le S' (k + 1); have h2 := HSM.out; have h3 := HTS.out; omega
      have h1 : ¬ (x : Int) < 1 := by omega
      have h2 : ¬ (B : Int) < x := by omega
      have hw : IntKind.i64.wrap ((m : Int) + (x : Int)) = (m : Int) + (x : Int) := by rw [IntKind.wrap_i64]; omega
      have hx3 : (m : Int) + (x : Int) ≤ 1024 := by omega
      have h1n : ¬ x < 1 := by omega
      have h1z : ¬ x = 0 := by omega
      have h2n : ¬ B < x := by omega
      have h2m : x ≤ B := by omega
      clear hat b1 b2 hx2
      go_wp2_with fail
      exact ⟨⟨k + 1, m + x, by omega, by simp, by simp, HTS, HW⟩, by simp [intOf]; omega⟩
    · obtain rfl : k = S'.length := by omega
      have hlk' : ¬ (S'.length : Int) < S'.length := by omega
      have hmn : m = L.length := by have h3 := HM.out; rw [List.take_length] at h3; have h2 := HSM.out; omega
      subst hmn
      have e1 : ((L.length : Int) == (L.length : Int)) = true := by simp
      rw [← HW.out] at c0 c1
      go_wp2_with fail
      go_ret
      refine ⟨rfl, ?_⟩
      rw [HW.out]
      exact HB2.out
end Go.Proofs.Ytchfccbneedejaa
