/-
  HeapTwo answers true.
-/
import Derived.Test.YtbahlbdnibmjfaaStep
namespace Go.Proofs.Ytbahlbdnibmjfaa
open Go.RowKit
set_option maxRecDepth 100000 in
set_option maxHeartbeats 3200000 in
theorem law_two (n0 : Int) (a : Option Addr) (l : List Ac) (cap : Nat) (w : World) (hl : l.length * 24 ≤ 140737488351232) (hr : Acs w a l) :
    Calls Try.prog 4 #[.int .i64 n0, .slice a l.length cap] w fun e w' => e = .returned (.bool true) ∧ Below w.heap.size w w' := by
  obtain ⟨b, o, hab⟩ := hr.get
  have hn0 : 0 ≤ amg n0 50 ∧ amg n0 50 < 50 := by unfold amg; omega
  obtain ⟨n, Hn⟩ : ∃ n : Nat, Hid (amg n0 50 = n) := ⟨(amg n0 50).toNat, by show _ = _; omega⟩
  have hn : n ≤ 16384 := by have := Hn.out; omega
  have HAM := Lib.hid (among_any n0 50 (by omega) (by omega) w)
  rw [Hn.out] at HAM
  clear hn0
  go_enter Try.func4, Try.ntmps4
  go_wp2_with fail
  refine HAM.out.mono ?_
  rintro e w0 ⟨rfl, rfl⟩
  go_wp2_with fail
  refine (New_any n hn w0).mono ?_
  rintro e w1 ⟨h1, D1, rfl, rH1, hD1, hb1⟩
  go_wp2_with fail
  refine (New_any n hn w1).mono ?_
  rintro e w2 ⟨h2, D2, rfl, rH2, hD2, hb2⟩
  have b2 := bthen hb1 hb2 hb1.size
  go_wp2_with fail
  refine (RNew_any n hn w2).mono ?_
  rintro e w3 ⟨g1, E1, rfl, rR1, hE1, hb3⟩
  have b3 := bthen b2 hb3 b2.size
  go_wp2_with fail
  refine (RNew_any n hn w3).mono ?_
  rintro e w4 ⟨g2, E2, rfl, rR2, hE2, hb4⟩
  have b4 := bthen b3 hb4 b3.size
  have rH1' := ((rH1.on hb2).on hb3).on hb4
  have rH2' := (rH2.on hb3).on hb4
  have rR1' := rR1.on hb4
  have sp1 : Sp D1 E1 := fun x hx hy => by have := rH1.lt x hx; have := hE1 x hy; have := hb2.size; omega
  have sp2 : Sp D2 E2 := fun x hx hy => by have := rH2.lt x hx; have := hE2 x hy; have := hb3.size; omega
  have sx : Sp (fun k => D1 k ∨ E1 k) (fun k => D2 k ∨ E2 k) := fun x hx hy => by
    have t2 := hb2.size
    have t3 := hb3.size
    rcases hx with hx | hx <;> rcases hy with hy | hy
    · have := rH1.lt x hx; have := hD2 x hy; omega
    · have := rH1.lt x hx; have := hE2 x hy; omega
    · have := hE1 x hx; have := rH2.lt x hy; omega
    · have := rR1.lt x hx; have := hE2 x hy; omega
  have hU1 : ∀ k, (D1 k ∨ E1 k) → w0.heap.size ≤ k := fun k hk => by
    rcases hk with hk | hk
    · exact hD1 k hk
    · exact Nat.le_trans b2.size (hE1 k hk)
  have hU2 : ∀ k, (D2 k ∨ E2 k) → w0.heap.size ≤ k := fun k hk => by
    rcases hk with hk | hk
    · exact Nat.le_trans hb1.size (hD2 k hk)
    · exact Nat.le_trans b3.size (hE2 k hk)
  clear rH1 rH2 rR1 hD1 hD2 hE1 hE2 hb1 hb2 hb3 hb4 b2 b3 HAM
  go_wp2_with fail
  go_loopw [13] (fun i wr => ∃ (j : Nat) (T1 T2 : Nat → Option Int) (D1 E1 D2 E2 : Nat → Prop), j ≤ l.length ∧ i = .int .i64 j ∧ HR wr h1 n T1 D1 ∧ RR wr g1 n T1 E1 ∧ HR wr h2 n T2 D2 ∧ RR wr g2 n T2 E2 ∧ Sp D1 E1 ∧ Sp D2 E2 ∧ Sp (fun k => D1 k ∨ E1 k) (fun k => D2 k ∨ E2 k) ∧ (∀ k, (D1 k ∨ E1 k) → w0.heap.size ≤ k) ∧ (∀ k, (D2 k ∨ E2 k) → w0.heap.size ≤ k) ∧ Below w0.heap.size w0 wr) (fun i _ => l.length - (intOf i).toNat)
  case atStart => exact ⟨0, _, _, D1, E1, D2, E2, Nat.zero_le _, rfl, rH1', rR1', rH2', rR2, sp1, sp2, sx, hU1, hU2, b4⟩
  case round =>
    clear rH1' rR1' rH2' rR2 sp1 sp2 sx hU1 hU2 b4
    obtain ⟨j, T1, T2, D1, E1, D2, E2, hj, rfl, rH1, rR1, rH2, rR2, sp1, sp2, sx, hU1, hU2, b4⟩ := hrel
    by_cases hjl : j < l.length
    · by_cases hj2 : j < 400
      · obtain ⟨rfl, hbw, hat⟩ := hab (by omega)
        obtain ⟨ha0, ha1, ha2⟩ := hat j hjl
        have c0 := (b4.cell (p := ⟨b, o + j * 3, none⟩) hbw).trans ha0
        have c1 := (b4.cell (p := ⟨b, o + j * 3 + 1, none⟩) hbw).trans ha1
        have c2 := (b4.cell (p := ⟨b, o + j * 3 + 2, none⟩) hbw).trans ha2
        generalize l.getD j Ac.zero = x at *
        clear ha0 ha1 ha2 hat
        have hUx : True := trivial
        clear hUx
        by_cases hp : j % 2 = 1
        case pos =>
          · have hpar : (j : Int) % 2 = 1 := by omega
            clear hp
            have HST := Lib.hid (step_any rH2 rR2 sp2 x)
            go_wp2_with fail
            refine HST.out.mono ?_
            rintro e w5 ⟨rfl, T5, D5, E5, rH5, rR5, sp5, hd5, f5⟩
            have b5 := b4.trans (f5.below b4.size hU2)
            have hU5 : ∀ k, (D5 k ∨ E5 k) → w0.heap.size ≤ k := above hU2 hd5 b4.size
            have rHo := rH1.fr f5 (fun k hk => sx k (Or.inl hk))
            have rRo := rR1.fr f5 (fun k hk => sx k (Or.inr hk))
            have so : Sp (fun k => D5 k ∨ E5 k) (fun k => D1 k ∨ E1 k) := (sx.symm : Sp (fun k => D2 k ∨ E2 k) (fun k => D1 k ∨ E1 k)).step (fun k hk => by rcases hk with hk | hk; exact rH1.lt k hk; exact rR1.lt k hk) hd5
            have HLA := Lib.hid (Len_any rHo)
            have HLB := Lib.hid (RLen_any rRo)
            have HLC := Lib.hid (Len_any rH5)
            have HLD := Lib.hid (RLen_any rR5)
            obtain ⟨cc, HCC⟩ := named (cnt T1 n)
            obtain ⟨dd, HDD⟩ := named (cnt T5 n)
            rw [HCC.out] at HLA HLB
            rw [HDD.out] at HLC HLD
            clear HST rH1 rR1 rH2 rR2 c0 c1 c2 f5 hd5 b4
            go_wp2_with fail
            refine HLA.out.mono ?_
            rintro e w6 ⟨rfl, rfl⟩
            go_wp2_with fail
            refine HLB.out.mono ?_
            rintro e w6 ⟨rfl, rfl⟩
            go_wp2_with fail
            refine HLC.out.mono ?_
            rintro e w6 ⟨rfl, rfl⟩
            go_wp2_with fail
            refine HLD.out.mono ?_
            rintro e w6 ⟨rfl, rfl⟩
            go_wp2_with fail
            exact ⟨⟨j + 1, T1, T5, D1, E1, D5, E5, by omega, by go_num, rHo, rRo, rH5, rR5, sp1, sp5, so.symm, hU1, hU5, b5⟩, by simp [intOf]; omega⟩
        case neg =>
          · have hpar : (j : Int) % 2 = 0 := by omega
            clear hp
            have HST := Lib.hid (step_any rH1 rR1 sp1 x)
            go_wp2_with fail
            refine HST.out.mono ?_
            rintro e w5 ⟨rfl, T5, D5, E5, rH5, rR5, sp5, hd5, f5⟩
            have b5 := b4.trans (f5.below b4.size hU1)
            have hU5 : ∀ k, (D5 k ∨ E5 k) → w0.heap.size ≤ k := above hU1 hd5 b4.size
            have rHo := rH2.fr f5 (fun k hk => sx.symm k (Or.inl hk))
            have rRo := rR2.fr f5 (fun k hk => sx.symm k (Or.inr hk))
            have so : Sp (fun k => D5 k ∨ E5 k) (fun k => D2 k ∨ E2 k) := (sx : Sp (fun k => D1 k ∨ E1 k) (fun k => D2 k ∨ E2 k)).step (fun k hk => by rcases hk with hk | hk; exact rH2.lt k hk; exact rR2.lt k hk) hd5
            have HLA := Lib.hid (Len_any rH5)
            have HLB := Lib.hid (RLen_any rR5)
            have HLC := Lib.hid (Len_any rHo)
            have HLD := Lib.hid (RLen_any rRo)
            obtain ⟨cc, HCC⟩ := named (cnt T5 n)
            obtain ⟨dd, HDD⟩ := named (cnt T2 n)
            rw [HCC.out] at HLA HLB
            rw [HDD.out] at HLC HLD
            clear HST rH1 rR1 rH2 rR2 c0 c1 c2 f5 hd5 b4
            go_wp2_with fail
            refine HLA.out.mono ?_
            rintro e w6 ⟨rfl, rfl⟩
            go_wp2_with fail
            refine HLB.out.mono ?_
            rintro e w6 ⟨rfl, rfl⟩
            go_wp2_with fail
            refine HLC.out.mono ?_
            rintro e w6 ⟨rfl, rfl⟩
            go_wp2_with fail
            refine HLD.out.mono ?_
            rintro e w6 ⟨rfl, rfl⟩
            go_wp2_with fail
            exact ⟨⟨j + 1, T5, T2, D5, E5, D2, E2, by omega, by go_num, rH5, rR5, rHo, rRo, sp5, sp2, so, hU5, hU2, b5⟩, by simp [intOf]; omega⟩
      · have HWK := Lib.hid (works_any wr)
        go_wp2_with fail
        refine HWK.out.mono ?_
        rintro e w6 ⟨rfl, hb6⟩
        go_wp2_with fail
        go_ret
        exact ⟨rfl, bthen b4 hb6 b4.size⟩
    · have HWK := Lib.hid (works_any wr)
      go_wp2_with fail
      refine HWK.out.mono ?_
      rintro e w6 ⟨rfl, hb6⟩
      go_wp2_with fail
      go_ret
      exact ⟨rfl, bthen b4 hb6 b4.size⟩
end Go.Proofs.Ytbahlbdnibmjfaa
