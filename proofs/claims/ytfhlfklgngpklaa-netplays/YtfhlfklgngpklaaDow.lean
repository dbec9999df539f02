/-
  Contract of (*Net).Down.
-/
import Derived.Test.YtfhlfklgngpklaaDlf
namespace Go.Proofs.Ytfhlfklgngpklaa
open Go.RowKit Go.Maps
/-- What Down leaves. -/
def dwS (S : NS) (a : Int) : NS := if tuE S a true = 0 then (S.turn a true).timed (flt a S.tm) else S
theorem To.after {w w1 w2 : World} {n : Nat} {P : Nat → Prop} {S S1 : NS} (h : To w w1 n P S1) (k : To w1 w2 n P S) : To w w2 n P S := by
  obtain ⟨_, _, _, f⟩ := h
  obtain ⟨P', k1, k2, k3⟩ := k
  exact ⟨P', k1, fun b e => (k2 b e).imp id (fun h => Nat.le_trans f.size h), f.then k3⟩
section
variable {w : World} {n : Nat} {P : Nat → Prop} {S : NS} {db mb : Nat} {tv : Value} {sv : Pr → Value} {D : DataW Unit} {k : Nat}
set_option maxRecDepth 100000 in
set_option maxHeartbeats 1600000 in
theorem Down_any (h : NTx w n P S db mb tv sv D k) (a : Int) :
    Calls Try.prog 19 #[.pointer (some ⟨n, 0, none⟩), .int .i64 a] w fun e w' => e = .returned (.int .i64 (tuE S a true)) ∧ To w w' n P (dwS S a) := by
  have hb1 : Below w.heap.size w (w.alloc (.cells #[.int .i64 a] 3)) := (Below.refl _ _).alloc (Nat.le_refl _) _
  have h1 := h.on_ hb1
  have HK := Lib.hid (turn_any h1 a true)
  have HN := Lib.hid h.nt
  have HB1 := Lib.hid hb1
  have HBX := Lib.hid (boxedN w (.int .i64 a) 3)
  have HLP : Hid (∀ b, P b → b < w.heap.size) := Lib.hid (fun b e => h.lt b e)
  have HTV : Hid (tv.ownBlock ≠ some w.heap.size) := Lib.hid (fun e => by have := h.lt _ (h.ot _ e); omega)
  have HSZ : Hid (w.heap.size < (w.alloc (.cells #[.int .i64 a] 3)).heap.size) := Lib.hid (by simp)
  have hfew := Lib.hid h.few
  unfold dwS
  by_cases he : tuE S a true = 0
  · rw [he] at HK
    rw [if_pos he, he]
    obtain ⟨va, vc, hv⟩ := own_slice h.ht
    subst hv
    have HTN := Lib.hid h.tvn
    clear h h1 hb1 he
    go_enter Try.func19, Try.ntmps19
    go_wp2_with fail
    refine HK.out.mono ?_
    rintro e w1 ⟨rfl, hto, hok, _⟩
    obtain ⟨k', k1⟩ := hok (by first | trivial | rfl)
    have hbx : w1.cell? ⟨w.heap.size, 0, none⟩ = some (.int .i64 a) := by
      obtain ⟨_, _, _, f⟩ := hto
      exact f.cell HBX.out (fun e => by have h5 := HLP.out _ e; exact Nat.lt_irrefl _ h5)
    have hd := Lib.hid (delf_any k1.ht hfew.out hbx HTV.out)
    have HTO := Lib.hid hto
    have K1 := Lib.hid k1
    have hnw := lt_of_block k1.hn
    obtain ⟨⟨c0, c1, c2, c3⟩, f0, f1, f2, f3⟩ := cells4 k1.hn
    have HC2 := Lib.hid c2
    have HF2 := Lib.hid f2
    have HNW := Lib.hid hnw
    obtain ⟨L, HL⟩ := named (S.turn a true).tm.length
    have hL2 : S.tm.length = (S.turn a true).tm.length := rfl
    have c2' : w1.cell? ⟨n, 2, none⟩ = some (.slice va L vc) := by rw [← HL.out]; exact c2
    have hd2 : Hid (Calls Try.prog 44 #[.slice va L vc, .func (.func 45) #[] #[.pointer (some ⟨w.heap.size, 0, none⟩)]] w1 fun e w' => ∃ v', e = .returned v' ∧ Kept w1 w' (.slice va S.tm.length vc) v' (flt a S.tm)) := by
      rw [← HL.out]
      exact hd
    clear hok hto hbx k1 c0 c1 c2 c3 f0 f1 f2 f3 HBX hd hnw HK
    go_wp2_with fail
    refine hd2.out.mono ?_
    rintro e w2 ⟨v', rfl, hk⟩
    obtain ⟨va', vc', rfl⟩ := own_slice hk.1
    have HKP := Lib.hid hk
    have x0 := hk.2.2.cell HC2.out HTN.out
    have x1 := (hk.2.2.frozen (p := ⟨n, 2, none⟩) HNW.out HTN.out).trans HF2.out
    clear hk c2'
    generalize hfl : (flt a S.tm).length = M at *
    have HFL := Lib.hid hfl
    clear hfl
    go_wp2_with fail
    go_ret
    exact ⟨rfl, (HTO.out.after (NTx.timed_to K1.out HKP.out (by rw [HFL.out]; have h6 := flt_len a S.tm; have := hfew.out; have h7 := HFL.out; omega))).before HB1.out⟩
  · rw [if_neg he]
    generalize tuE S a true = E at *
    clear h h1 hb1
    go_enter Try.func19, Try.ntmps19
    go_wp2_with fail
    refine HK.out.mono ?_
    rintro e w1 ⟨rfl, _, _, hw⟩
    have HW := Lib.hid (hw he)
    clear hw
    go_wp2_with fail
    go_ret
    exact ⟨rfl, HN.out.to (by rw [HW.out]; exact HB1.out)⟩
end
end Go.Proofs.Ytfhlfklgngpklaa
