/-
  HeapPlays answers true.
-/
import Derived.Test.YtbahlbdnibmjfaaStep
namespace Go.Proofs.Ytbahlbdnibmjfaa
open Go.RowKit
set_option maxRecDepth 100000 in
set_option maxHeartbeats 3200000 in
theorem law_plays (n0 : Int) (a : Option Addr) (l : List Ac) (cap : Nat) (w : World) (hl : l.length * 24 ≤ 140737488351232) (hr : Acs w a l) :
    Calls Try.prog 3 #[.int .i64 n0, .slice a l.length cap] w fun e w' => e = .returned (.bool true) ∧ Below w.heap.size w w' := by
  by_cases hn : 0 ≤ n0 ∧ n0 ≤ 16384
  · obtain ⟨n, rfl⟩ : ∃ n : Nat, n0 = n := ⟨n0.toNat, by omega⟩
    have hn' : n ≤ 16384 := by omega
    obtain ⟨b, o, hab⟩ := hr.get
    clear hn
    go_enter Try.func3, Try.ntmps3
    go_wp2_with fail
    refine (New_any n hn' w).mono ?_
    rintro e w1 ⟨h, D, rfl, rH, hD, hb1⟩
    go_wp2_with fail
    refine (RNew_any n hn' w1).mono ?_
    rintro e w2 ⟨g, E, rfl, rR, hE, hb2⟩
    have rH2 := rH.on hb2
    have sp : Sp D E := fun x hx hy => by have := rH.lt x hx; have := hE x hy; omega
    have b2 := bthen hb1 hb2 hb1.size
    have hU : ∀ k, (D k ∨ E k) → w.heap.size ≤ k := fun k hk => by
      rcases hk with hk | hk
      · exact hD k hk
      · exact Nat.le_trans hb1.size (hE k hk)
    clear rH hD hE hb1 hb2
    go_wp2_with fail
    go_loopw [9] (fun i wr => ∃ (j : Nat) (T : Nat → Option Int) (D E : Nat → Prop), j ≤ l.length ∧ i = .int .i64 j ∧ HR wr h n T D ∧ RR wr g n T E ∧ Sp D E ∧ (∀ k, (D k ∨ E k) → w.heap.size ≤ k) ∧ Below w.heap.size w wr) (fun i _ => l.length - (intOf i).toNat)
    case atStart => exact ⟨0, _, D, E, Nat.zero_le _, rfl, rH2, rR, sp, hU, b2⟩
    case round =>
      clear rH2 rR sp hU b2
      obtain ⟨j, T, D, E, hj, rfl, rH, rR, sp, hU, b4⟩ := hrel
      by_cases hjl : j < l.length
      · by_cases hj2 : j < 400
        · obtain ⟨rfl, hbw, hat⟩ := hab (by omega)
          obtain ⟨ha0, ha1, ha2⟩ := hat j hjl
          have c0 := (b4.cell (p := ⟨b, o + j * 3, none⟩) hbw).trans ha0
          have c1 := (b4.cell (p := ⟨b, o + j * 3 + 1, none⟩) hbw).trans ha1
          have c2 := (b4.cell (p := ⟨b, o + j * 3 + 2, none⟩) hbw).trans ha2
          generalize l.getD j Ac.zero = x at *
          clear ha0 ha1 ha2 hat
          have HST := Lib.hid (step_any rH rR sp x)
          go_wp2_with fail
          refine HST.out.mono ?_
          rintro e w5 ⟨rfl, T5, D5, E5, rH5, rR5, sp5, hd5, f5⟩
          have b5 := b4.trans (f5.below b4.size hU)
          have hU5 : ∀ k, (D5 k ∨ E5 k) → w.heap.size ≤ k := above hU hd5 b4.size
          have HLA := Lib.hid (Len_any rH5)
          have HLB := Lib.hid (RLen_any rR5)
          obtain ⟨cc, HCC⟩ := named (cnt T5 n)
          rw [HCC.out] at HLA HLB
          clear HST rH rR c0 c1 c2 f5 hd5 hU b4
          go_wp2_with fail
          refine HLA.out.mono ?_
          rintro e w6 ⟨rfl, rfl⟩
          go_wp2_with fail
          refine HLB.out.mono ?_
          rintro e w6 ⟨rfl, rfl⟩
          go_wp2_with fail
          exact ⟨⟨j + 1, T5, D5, E5, by omega, by go_num, rH5, rR5, sp5, hU5, b5⟩, by simp [intOf]; omega⟩
        · have HWK := Lib.hid (works_any wr)
          go_wp2_with fail
          refine HWK.out.mono ?_
          rintro e w6 ⟨rfl, hb6⟩
          go_wp2_with fail
          go_ret
          exact ⟨rfl, bthen b4 hb6 b4.size⟩
      · have HWK := Lib.hid (works_any wr)
        go_wp2_with fail
        refine HWK.out.mono ?_
        rintro e w6 ⟨rfl, hb6⟩
        go_wp2_with fail
        go_ret
        exact ⟨rfl, bthen b4 hb6 b4.size⟩
  · have HNA := Lib.hid (New_no n0 hn w)
    have HNB := Lib.hid (RNew_no n0 hn w)
    have HWK := Lib.hid (works_any w)
    clear hn
    go_enter Try.func3, Try.ntmps3
    go_wp2_with fail
    refine HNA.out.mono ?_
    rintro e w1 ⟨rfl, rfl⟩
    go_wp2_with fail
    refine HNB.out.mono ?_
    rintro e w1 ⟨rfl, rfl⟩
    go_wp2_with fail
    go_loopw [9] (fun _ wr => wr = w1) (fun _ _ => 0)
    case atStart => rfl
    case round =>
      subst hrel
      go_wp2_with fail
      refine HWK.out.mono ?_
      rintro e w6 ⟨rfl, hb6⟩
      go_wp2_with fail
      go_ret
      exact ⟨rfl, hb6⟩
end Go.Proofs.Ytbahlbdnibmjfaa
