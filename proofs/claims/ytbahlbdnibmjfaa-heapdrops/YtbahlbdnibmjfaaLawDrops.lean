/-
  HeapDrops answers true.
-/
import Derived.Test.YtbahlbdnibmjfaaCells
import Derived.Test.YtbahlbdnibmjfaaSep
namespace Go.Proofs.Ytbahlbdnibmjfaa
open Go.RowKit
theorem upd_comm {T : Nat → Option Int} {x y : Nat} {u v : Option Int} (h : x ≠ y) : upd (upd T x u) y v = upd (upd T y v) x u := by
  funext z
  unfold upd
  by_cases h1 : z = x
  · subst h1; rw [if_neg h, if_pos rfl, if_pos rfl]
  · by_cases h2 : z = y
    · rw [if_pos h2, if_neg h1, if_pos h2]
    · rw [if_neg h2, if_neg h1, if_neg h1, if_neg h2]
theorem upd_upd {T : Nat → Option Int} {x : Nat} {u v : Option Int} : upd (upd T x u) x v = upd T x v := by
  funext z
  unfold upd
  split <;> rfl
theorem cnt_all {T : Nat → Option Int} : ∀ {n : Nat}, (∀ x, x < n → (T x).isSome = true) → cnt T n = n
  | 0, _ => rfl
  | n + 1, h => by rw [cnt_succ, cnt_all (fun x hx => h x (by omega)), h n (by omega)]; rfl
theorem low_none {T : Nat → Option Int} {x : Nat} {key : Int} (h : T x = none) : lowT T x key = upd T x (some key) := by simp [lowT, low, h]
theorem cnt_pop {n : Nat} {T : Nat → Option Int} {x : Nat} {k e : Int} {j : Nat} (h : TopIs n T x k e) (hc : cnt T n ≤ n - j) : cnt (if e = 0 then upd T x none else T) n ≤ n - (j + 1) := by
  rcases h with ⟨rfl, a, b, _⟩ | ⟨rfl, _, _, a⟩
  · rw [if_pos rfl]
    have := cnt_upd T x none n b
    rw [a] at this
    simp at this
    omega
  · rw [if_neg (by decide), show T = fun _ => none from funext a, cnt_empty]
    omega
theorem Drop_ok {w : World} {h n : Nat} {T : Nat → Option Int} {D : Nat → Prop} (r : HR w h n T D) (x : Nat) (hx : x < n) (hs : (T x).isSome = true) :
    Calls Try.prog 19 #[.pointer (some ⟨h, 0, none⟩), .int .i64 x] w fun e w' => e = .returned (.tuple #[.bool true, .int .i64 0]) ∧ HRto w w' h n (upd T x none) D := by
  have hok : okI n x = true := by simp [okI]; omega
  have := Drop_any r x
  rw [show dropB n T x = true by simp [dropB, hok, hs], show lowE n x = 0 by simp [lowE, hok], show dropT n T x = upd T x none by simp [dropT, hok]] at this
  exact this
set_option maxRecDepth 100000 in
set_option maxHeartbeats 3200000 in
theorem law_drops (a : Option Addr) (l : List Int) (cap : Nat) (d0 : Int) (w : World) (hl : l.length * 8 ≤ 140737488351232) (hr : U64s w a l) :
    Calls Try.prog 7 #[.slice a l.length cap, .int .i64 d0] w fun e w' => e = .returned (.bool true) ∧ Below w.heap.size w w' := by
  obtain ⟨n, Hn⟩ := named (min l.length 100)
  have hn : n ≤ 100 := by have := Hn.out; omega
  have hnl : n ≤ l.length := by have := Hn.out; omega
  have hmin : (if (100 : Int) < l.length then (100 : Int) else l.length) = n := by have := Hn.out; split <;> omega
  obtain ⟨b, o, hab⟩ := hr.get
  have HWK := Lib.hid (works_any w)
  by_cases hn0 : n = 0
  · have hz : ((n : Int) == 0) = true := by simp [hn0]
    clear hn0
    go_enter Try.func7, Try.ntmps7
    go_wp2_with fail
    refine HWK.out.mono ?_
    rintro e w1 ⟨rfl, hb1⟩
    go_wp2_with fail
    go_ret
    exact ⟨rfl, hb1⟩
  · have hz : ((n : Int) == 0) = false := by simp; omega
    have HAM := Lib.hid (fun w => among_any d0 n (by omega) (by omega) w)
    have hd1 : 0 ≤ amg d0 n ∧ amg d0 n < n := by unfold amg; exact ⟨Int.emod_nonneg _ (by omega), Int.emod_lt_of_pos _ (by omega)⟩
    obtain ⟨dr, Hdr⟩ : ∃ dr : Nat, Hid (amg d0 n = dr) := ⟨(amg d0 n).toNat, by show _ = _; omega⟩
    have hdr : dr < n := by have := Hdr.out; omega
    rw [Hdr.out] at HAM
    clear hd1 hn0
    go_enter Try.func7, Try.ntmps7
    go_wp2_with fail
    refine HWK.out.mono ?_
    rintro e w1 ⟨rfl, hb1⟩
    go_wp2_with fail
    refine (HAM.out w1).mono ?_
    rintro e w1 ⟨rfl, rfl⟩
    go_wp2_with fail
    refine (New_any n (by omega) w1).mono ?_
    rintro e w2 ⟨ha, DA, rfl, rA, hDA, hb2⟩
    have b2 := bthen hb1 hb2 hb1.size
    have eA : ∀ x, DA x → w.heap.size ≤ x := fun k hk => Nat.le_trans hb1.size (hDA k hk)
    go_wp2_with fail
    refine (New_any n (by omega) w2).mono ?_
    rintro e w3 ⟨hb, DB, rfl, rB, hDB, hb3⟩
    have b3 := bthen b2 hb3 b2.size
    have eB : ∀ x, DB x → w.heap.size ≤ x := fun k hk => Nat.le_trans b2.size (hDB k hk)
    have sp : Sp DA DB := fun x hx hy => by have := rA.lt x hx; have := hDB x hy; omega
    have rA3 := rA.on hb3
    clear HWK hb1 hb2 hb3 hDA hDB HAM rA b2
    go_wp2_with fail
    go_loopw [54] (fun i wr => ∃ (j : Nat) (TA : Nat → Option Int) (DA DB : Nat → Prop), j ≤ n ∧ i = .int .i64 j ∧ HR wr ha n TA DA ∧ HR wr hb n (upd TA dr none) DB ∧ Hid (∀ x, x < j → (TA x).isSome = true) ∧ Hid (∀ x, j ≤ x → TA x = none) ∧ Sp DA DB ∧ (∀ x, DA x → w.heap.size ≤ x) ∧ (∀ x, DB x → w.heap.size ≤ x) ∧ Below w.heap.size w wr) (fun i _ => n - (intOf i).toNat)
    case atStart => exact ⟨0, _, DA, DB, Nat.zero_le _, rfl, rA3, by rw [upd_none rfl]; exact rB, fun x hx => by omega, fun x hx => rfl, sp, eA, eB, b3⟩
    case round =>
      clear rA3 rB sp eA eB b3
      obtain ⟨j, TA, DA, DB, hj, rfl, rA, rB, Hsome, Hnone, sp, eA, eB, b4⟩ := hrel
      by_cases hjn : j < n
      · obtain ⟨rfl, hbw, hat⟩ := hab (by omega)
        have c0 := (b4.cell (p := ⟨b, o + j, none⟩) hbw).trans (hat j (by omega))
        have hat' := hat j (by omega)
        generalize l.getD j 0 = key at *
        have HLA := Lib.hid (Lower_ok rA j hjn key)
        rw [low_none (Hnone.out j (Nat.le_refl _))] at HLA
        obtain ⟨tA, HtA⟩ := named (low TA j key)
        rw [HtA.out] at HLA
        have hsm : Hid (∀ x, x < j + 1 → (upd TA j (some key) x).isSome = true) := fun x hx => by
          by_cases e : x = j
          · subst e; rw [upd_self]; rfl
          · rw [upd_ne _ _ e]; exact Hsome.out x (by omega)
        have hno : Hid (∀ x, j + 1 ≤ x → upd TA j (some key) x = none) := fun x hx => by rw [upd_ne _ _ (by omega)]; exact Hnone.out x (by omega)
        by_cases hjd : j = dr
        · have hjd' : ((j : Int) == dr) = true := by simp [hjd]
          have HTB : Hid (upd TA dr none = upd (upd TA j (some key)) dr none) := by show _ = _; rw [hjd, upd_upd]
          clear hjd
          go_wp2_with fail
          refine HLA.out.mono ?_
          rintro e w5 ⟨rfl, D5, r5, hd5, f5⟩
          have b5 := b4.trans (f5.below b4.size eA)
          have rB5 := rB.fr f5 sp.symm
          rw [HTB.out] at rB5
          have sp5 : Sp D5 DB := sp.step rB.lt hd5
          have eA5 := above eA hd5 b4.size
          clear HLA rA rB f5 hd5
          go_wp2_with fail
          exact ⟨⟨j + 1, _, D5, DB, by omega, by go_num, r5, rB5, hsm, hno, sp5, eA5, eB, b5⟩, by simp [intOf]; omega⟩
        · have hjd' : ((j : Int) == dr) = false := by simp; omega
          have HTB : Hid (upd (upd TA dr none) j (some key) = upd (upd TA j (some key)) dr none) := upd_comm (fun e => hjd e.symm)
          have hBj : upd TA dr none j = none := by rw [upd_ne _ _ hjd]; exact Hnone.out j (Nat.le_refl _)
          clear hjd
          go_wp2_with fail
          refine HLA.out.mono ?_
          rintro e w5 ⟨rfl, D5, r5, hd5, f5⟩
          have b5 := b4.trans (f5.below b4.size eA)
          have rB5 := rB.fr f5 sp.symm
          have sp5 : Sp D5 DB := sp.step rB.lt hd5
          have eA5 := above eA hd5 b4.size
          have c5 := (b5.cell (p := ⟨b, o + j, none⟩) hbw).trans hat'
          have HLB := Lib.hid (Lower_ok rB5 j hjn key)
          rw [low_none hBj, HTB.out] at HLB
          obtain ⟨tB, HtB⟩ := named (low (upd TA dr none) j key)
          rw [HtB.out] at HLB
          clear HLA rA rB f5 hd5 c0 b4 hBj
          go_wp2_with fail
          refine HLB.out.mono ?_
          rintro e w6 ⟨rfl, D6, r6, hd6, f6⟩
          have b6 := b5.trans (f6.below b5.size eB)
          have rA6 := r5.fr f6 sp5
          have sp6 : Sp D5 D6 := (sp5.symm.step r5.lt hd6).symm
          have eB6 := above eB hd6 b5.size
          clear HLB r5 rB5 f6 hd6 c5
          go_wp2_with fail
          exact ⟨⟨j + 1, _, D5, D6, by omega, by go_num, rA6, r6, hsm, hno, sp6, eA5, eB6, b6⟩, by simp [intOf]; omega⟩
      · have hjn' : j = n := by omega
        have hsd : (TA dr).isSome = true := Hsome.out dr (by omega)
        have HDR := Lib.hid (Drop_ok rA dr hdr hsd)
        have HCN : Hid (cnt (upd TA dr none) n = n - 1) := by
          have := cnt_upd TA dr none n hdr
          rw [cnt_all (fun x hx => Hsome.out x (by omega)), hsd] at this
          show _ = _
          simp at this
          omega
        obtain ⟨T, HT⟩ := named (upd TA dr none)
        rw [HT.out] at HDR HCN rB
        clear hsd
        go_wp2_with fail
        refine HDR.out.mono ?_
        rintro e w5 ⟨rfl, D5, r5, hd5, f5⟩
        have b5 := b4.trans (f5.below b4.size eA)
        have rB5 := rB.fr f5 sp.symm
        have sp5 : Sp D5 DB := sp.step rB.lt hd5
        have eA5 := above eA hd5 b4.size
        have HLN := Lib.hid (Len_any r5)
        rw [HCN.out] at HLN
        have hcast : ((n - 1 : Nat) : Int) = (n : Int) - 1 := by omega
        rw [hcast] at HLN
        have HCL : Hid (cnt T n ≤ n - 0) := by show _ ≤ _; have := HCN.out; omega
        clear HDR rA rB f5 hd5 b4 hcast
        go_wp2_with fail
        refine HLN.out.mono ?_
        rintro e w5 ⟨rfl, rfl⟩
        go_wp2_with fail
        go_loopw [95] (fun i wr => ∃ (j : Nat) (T : Nat → Option Int) (DA DB : Nat → Prop), j ≤ n ∧ i = .int .i64 j ∧ HR wr ha n T DA ∧ HR wr hb n T DB ∧ Hid (cnt T n ≤ n - j) ∧ Sp DA DB ∧ (∀ x, DA x → w.heap.size ≤ x) ∧ (∀ x, DB x → w.heap.size ≤ x) ∧ Below w.heap.size w wr) (fun i _ => n - (intOf i).toNat)
        case atStart => exact ⟨0, T, D5, DB, Nat.zero_le _, rfl, r5, rB5, HCL, sp5, eA5, eB, b5⟩
        case round =>
          clear r5 rB5 HCL sp5 eA5 eB b5 HLN HCN HT Hsome Hnone sp eA
          obtain ⟨j, T, DA, DB, hj, rfl, rA, rB, HCL, sp, eA, eB, b4⟩ := hrel
          by_cases hjn : j < n
          · have HPA := Lib.hid (Pop_any rA)
            go_wp2_with fail
            refine HPA.out.mono ?_
            rintro e w5 ⟨x, k, er, rfl, ht, D5, r5, hd5, f5⟩
            have b5 := b4.trans (f5.below b4.size eA)
            have rB5 := rB.fr f5 sp.symm
            have sp5 : Sp D5 DB := sp.step rB.lt hd5
            have eA5 := above eA hd5 b4.size
            have HPB := Lib.hid (Pop_any rB5)
            clear HPA rA rB f5 hd5 b4 eA
            go_wp2_with fail
            refine HPB.out.mono ?_
            rintro e w6 ⟨x', k', er', rfl, ht', D6, r6, hd6, f6⟩
            obtain ⟨rfl, rfl, rfl⟩ := ht'.unique ht
            have b6 := b5.trans (f6.below b5.size eB)
            have rA6 := r5.fr f6 sp5
            have sp6 : Sp D5 D6 := (sp5.symm.step r5.lt hd6).symm
            have eB6 := above eB hd6 b5.size
            have HC6 := Lib.hid (cnt_pop ht HCL.out)
            clear HPB r5 rB5 f6 hd6
            go_wp2_with fail
            exact ⟨⟨j + 1, _, D5, D6, by omega, by go_num, rA6, r6, HC6, sp6, eA5, eB6, b6⟩, by simp [intOf]; omega⟩
          · have HLA := Lib.hid (Len_any rA)
            have HLB := Lib.hid (Len_any rB)
            rw [show cnt T n = 0 by have := HCL.out; omega] at HLA HLB
            go_wp2_with fail
            refine HLA.out.mono ?_
            rintro e w5 ⟨rfl, rfl⟩
            go_wp2_with fail
            refine HLB.out.mono ?_
            rintro e w5 ⟨rfl, rfl⟩
            go_wp2_with fail
            go_ret
            exact ⟨rfl, b4⟩
end Go.Proofs.Ytbahlbdnibmjfaa
