/-
  HeapLeast answers true.
-/
import Derived.Test.YtbahlbdnibmjfaaGiven
namespace Go.Proofs.Ytbahlbdnibmjfaa
open Go.RowKit
theorem Key_ok {w : World} {h n : Nat} {T : Nat → Option Int} {D : Nat → Prop} (r : HR w h n T D) (x : Nat) (hx : x < n) :
    Calls Try.prog 18 #[.pointer (some ⟨h, 0, none⟩), .int .i64 x] w fun e w' => e = .returned (.tuple #[.int .u64 ((T x).getD 0), .bool (T x).isSome, .int .i64 0]) ∧ w' = w := by
  have hok : okI n x = true := by simp [okI]; omega
  have := Key_any r x
  rw [show dropB n T x = (T x).isSome by simp [dropB, hok], show lowE n x = 0 by simp [lowE, hok], show keyK n T x = (T x).getD 0 by simp [keyK, hok]] at this
  exact this
theorem TopIs.some {n : Nat} {T : Nat → Option Int} {x : Nat} {k e : Int} (h : TopIs n T x k e) {y : Nat} {z : Int} (hy : T y = some z) : e = 0 ∧ (k < z ∨ k = z ∧ x ≤ y) := by
  rcases h with ⟨a, _, _, b⟩ | ⟨_, _, _, a⟩
  · exact ⟨a, b y z hy⟩
  · rw [a y] at hy; cases hy
theorem box3 (w : World) (a b c : Value) (t : TypeId) : ((w.alloc (.cells #[a, b, c] t)).cell? ⟨w.heap.size, 0, none⟩ = some a ∧ (w.alloc (.cells #[a, b, c] t)).cell? ⟨w.heap.size, 1, none⟩ = some b ∧ (w.alloc (.cells #[a, b, c] t)).cell? ⟨w.heap.size, 2, none⟩ = some c) := (cells3 (heap_top w (.cells #[a, b, c] t))).1
set_option maxRecDepth 100000 in
set_option maxHeartbeats 3200000 in
theorem law_least (n0 : Int) (a : Option Addr) (l : List Ac) (cap : Nat) (w : World) (hl : l.length * 24 ≤ 140737488351232) (hr : Acs w a l) :
    Calls Try.prog 6 #[.int .i64 n0, .slice a l.length cap] w fun e w' => e = .returned (.bool true) ∧ Below w.heap.size w w' := by
  obtain ⟨b, o, hab⟩ := hr.get
  have hn0 : 0 ≤ amg n0 40 ∧ amg n0 40 < 40 := by unfold amg; omega
  obtain ⟨n, Hn⟩ : ∃ n : Nat, Hid (amg n0 40 = n) := ⟨(amg n0 40).toNat, by show _ = _; omega⟩
  have hn : n < 40 := by have := Hn.out; omega
  have HAM := Lib.hid (fun w => among_any n0 40 (by omega) (by omega) w)
  rw [Hn.out] at HAM
  have HWK := Lib.hid (works_any w)
  clear hn0
  go_enter Try.func6, Try.ntmps6
  go_wp2_with fail
  refine HWK.out.mono ?_
  rintro e w1 ⟨rfl, hb1⟩
  go_wp2_with fail
  refine (HAM.out w1).mono ?_
  rintro e w0 ⟨rfl, rfl⟩
  go_wp2_with fail
  refine (New_any n (by omega) w0).mono ?_
  rintro e w2 ⟨h, D, rfl, r2, hD2, hb2⟩
  have b2 := bthen hb1 hb2 hb1.size
  have hD : ∀ k, D k → w.heap.size ≤ k := fun k hk => Nat.le_trans hb1.size (hD2 k hk)
  clear HWK hb1 hb2 hD2 HAM
  go_wp2_with fail
  go_loopw [7] (fun i wr => ∃ (j : Nat) (T : Nat → Option Int) (D : Nat → Prop), j ≤ l.length ∧ i = .int .i64 j ∧ HR wr h n T D ∧ (∀ x, D x → w.heap.size ≤ x) ∧ Below w.heap.size w wr) (fun i _ => l.length - (intOf i).toNat)
  case atStart => exact ⟨0, _, D, Nat.zero_le _, rfl, r2, hD, b2⟩
  case round =>
    clear r2 hD b2
    obtain ⟨j, T, D, hj, rfl, r6, hD, b6⟩ := hrel
    by_cases hjl : j < l.length
    · by_cases hj2 : j < 200
      · obtain ⟨rfl, hbw, hat⟩ := hab (by omega)
        obtain ⟨ha0, ha1, ha2⟩ := hat j hjl
        have c0 := (b6.cell (p := ⟨b, o + j * 3, none⟩) hbw).trans ha0
        have c1 := (b6.cell (p := ⟨b, o + j * 3 + 1, none⟩) hbw).trans ha1
        have c2 := (b6.cell (p := ⟨b, o + j * 3 + 2, none⟩) hbw).trans ha2
        generalize l.getD j Ac.zero = x at *
        clear ha0 ha1 ha2
        have HBD : Hid (¬ D wr.heap.size) := fun hd => by have := r6.lt _ hd; omega
        have HA4 := Lib.hid (fun w => among_any x.k 4 (by omega) (by omega) w)
        have r7 := r6.on ((Below.refl wr.heap.size wr).alloc (Nat.le_refl _) (.cells #[.int .i64 x.k, .int .i64 x.i, .int .u64 x.d] 34))
        have b7 := b6.alloc b6.size (.cells #[.int .i64 x.k, .int .i64 x.i, .int .u64 x.d] 34)
        obtain ⟨e0, e1, e2⟩ := box3 wr (.int .i64 x.k) (.int .i64 x.i) (.int .u64 x.d) 34
        obtain ⟨kd, HKD⟩ := named (amg x.k 4)
        rw [HKD.out] at HA4
        go_wp2_with fail
        refine (HA4.out _).mono ?_
        rintro e w0 ⟨rfl, rfl⟩
        clear HA4 c0 c1 c2
        generalize hWx : wr.alloc (.cells #[.int .i64 x.k, .int .i64 x.i, .int .u64 x.d] 34) = W7 at *
        clear hWx
        by_cases h3 : kd = 3
        · subst h3
          have HPP := Lib.hid (Pop_any r7)
          go_wp2_with fail
          refine HPP.out.mono ?_
          rintro e w8 ⟨x8, k8, er8, rfl, ht8, D8, r8, hd8, f8⟩
          have b8 := b7.trans (f8.below b7.size hD)
          have hD8 : ∀ x, D8 x → w.heap.size ≤ x := fun x hx => by rcases hd8 _ hx with h' | h'; exact hD _ h'; exact Nat.le_trans b7.size h'
          obtain ⟨T8, HT8⟩ := named (if er8 = 0 then upd T x8 none else T)
          rw [HT8.out] at r8
          clear r7 b7 HPP ht8 hd8 f8 hD e0 e1 e2 HT8
          have bA : Below w.heap.size w w8 := b8
          have HTP := Lib.hid (Top_any r8)
          clear b6 r6
          go_wp2_with fail
          refine HTP.out.mono ?_
          rintro e w9 ⟨x, kk, er, rfl, ht, hb9⟩
          have r9 := r8.on hb9
          have b9 := bthen bA hb9 bA.size
          clear r8 b8 bA hb9 HTP
          have hout := r9.out
          go_wp2_with fail
          go_loopw [12, 13] (fun m i wr => ∃ q : Nat, q ≤ n ∧ i = .int .i64 q ∧ m = .int .i64 (cnt T8 q) ∧ wr = w9) (fun _ i _ => n - (intOf i).toNat)
          case atStart => exact ⟨0, Nat.zero_le _, rfl, by rw [cnt_zero]; rfl, rfl⟩
          case round =>
            obtain ⟨q, hq, rfl, rfl, rfl⟩ := hrel
            by_cases hqn : q < n
            · have HKY := Lib.hid (Key_ok r9 q hqn)
              have hcs := cnt_succ T8 q
              have hcl := cnt_le T8 q
              cases hT : T8 q with
              | none =>
                rw [hT] at HKY hcs
                have HC : Hid (cnt T8 (q + 1) = cnt T8 q) := by show _ = _; rw [hcs]; simp
                clear hcs
                go_wp2_with fail
                refine HKY.out.mono ?_
                rintro e w10 ⟨rfl, rfl⟩
                go_wp2_with fail
                exact ⟨⟨q + 1, by omega, by go_num, by rw [HC.out], by simp⟩, by simp [intOf]; omega⟩
              | some z =>
                rw [hT] at HKY hcs
                have HC : Hid (cnt T8 (q + 1) = cnt T8 q + 1) := by show _ = _; rw [hcs]; simp
                obtain ⟨her, hz⟩ := ht.some hT
                subst her
                clear hcs
                obtain ⟨cc, HCC⟩ := named (cnt T8 q)
                rw [HCC.out] at hcl
                have hn1 : ¬ z < kk := by omega
                by_cases heq : z = kk
                · have hn2 : ¬ (q : Int) < x := by omega
                  have hq1 : (z == kk) = true := by simpa using heq
                  clear heq hz
                  rw [HCC.out]
                  go_wp2_with fail
                  refine HKY.out.mono ?_
                  rintro e w10 ⟨rfl, rfl⟩
                  go_wp2_with fail
                  exact ⟨⟨q + 1, by omega, by go_num, by rw [HC.out, HCC.out]; go_num, by simp⟩, by simp [intOf]; omega⟩
                · have hq1 : (z == kk) = false := beq_eq_false_iff_ne.2 heq
                  clear heq hz
                  rw [HCC.out]
                  go_wp2_with fail
                  refine HKY.out.mono ?_
                  rintro e w10 ⟨rfl, rfl⟩
                  go_wp2_with fail
                  exact ⟨⟨q + 1, by omega, by go_num, by rw [HC.out, HCC.out]; go_num, by simp⟩, by simp [intOf]; omega⟩
            · have hqe : q = n := by omega
              subst hqe
              have HLN := Lib.hid (Len_any r9)
              have hcl := cnt_le T8 q
              by_cases hc : 0 < cnt T8 q
              · obtain ⟨her, _⟩ := ht.ok hc
                subst her
                have hc' : (0 : Int) < cnt T8 q := by omega
                obtain ⟨cc, HCC⟩ := named (cnt T8 q)
                rw [HCC.out] at hc' HLN hcl ⊢
                have hc4 : 0 < cc := by omega
                have hc5 : decide (0 < cc) = true := by simpa using hc4
                have hc2 : decide (1 ≤ (cc : Int)) = true := by simp; omega
                have hc3 : decide ((0 : Int) < cc) = true := by simp; omega
                clear hc
                go_wp2_with fail
                refine HLN.out.mono ?_
                rintro e w10 ⟨rfl, rfl⟩
                go_wp2_with fail
                exact ⟨⟨j + 1, T8, D8, by omega, by go_num, r9, hD8, b9⟩, by simp [intOf]; omega⟩
              · have hc0 : cnt T8 q = 0 := by omega
                obtain ⟨her, _⟩ := ht.no hc0
                subst her
                rw [hc0] at HLN ⊢
                clear hc hc0
                go_wp2_with fail
                refine HLN.out.mono ?_
                rintro e w10 ⟨rfl, rfl⟩
                go_wp2_with fail
                exact ⟨⟨j + 1, T8, D8, by omega, by go_num, r9, hD8, b9⟩, by simp [intOf]; omega⟩
        · have h3' : (kd == 3) = false := beq_eq_false_iff_ne.2 h3
          clear h3
          have HAN := Lib.hid (fun w => among_any x.i (n + 1) (by omega) (by omega) w)
          have hn1 : ((n + 1 : Nat) : Int) = (n : Int) + 1 := by omega
          obtain ⟨y, HY⟩ := named (amg x.i (n + 1))
          rw [HY.out, hn1] at HAN
          have r7d := r7.same (w' := W7.drew) (fun _ _ => rfl)
          have HLW := Lib.hid (Lower_any r7d y x.d)
          obtain ⟨t8, Ht8⟩ := named (lowB n T y x.d)
          obtain ⟨er8, Her8⟩ := named (lowE n y)
          obtain ⟨T8, HT8⟩ := named (lowTT n T y x.d)
          rw [Ht8.out, Her8.out, HT8.out] at HLW
          have HE1 : Hid (W7.drew.cell? ⟨wr.heap.size, 1, none⟩ = some (.int .i64 x.i)) := e1
          have HE2 : Hid (W7.drew.cell? ⟨wr.heap.size, 2, none⟩ = some (.int .u64 x.d)) := e2
          have hwr : IntKind.i64.wrap ((n : Int) + 1) = (n : Int) + 1 := by rw [IntKind.wrap_i64]; omega
          clear r7d hat
          go_wp2_with fail
          go_region_held3 (fun w' => w'.cell? ⟨wr.heap.size, 1, none⟩ = some (.int .i64 x.i) ∧ w'.cell? ⟨wr.heap.size, 2, none⟩ = some (.int .u64 x.d)) (go_keep) (first | (go_at_call 14; refine (HAN.out _).mono ?_; rintro e w0 ⟨rfl, rfl⟩) | (go_at_call 15; refine HLW.out.mono ?_; rintro e w8 ⟨rfl, D8, r8, hd8, f8⟩; have v1 := f8.cell HE1.out HBD.out; have v2 := f8.cell HE2.out HBD.out))
          have b7d : Below w.heap.size w W7.drew := b7.drew
          have b8 := b7d.trans (f8.below b7d.size hD)
          have hD8 : ∀ x, D8 x → w.heap.size ≤ x := fun x hx => by rcases hd8 _ hx with h' | h'; exact hD _ h'; exact Nat.le_trans b7d.size h'
          clear r7 b7 b7d HLW HAN hd8 f8 hD e0 e1 e2 HT8 v1 v2 Ht8 Her8 HY
          have bA : Below w.heap.size w w8 := b8
          have HTP := Lib.hid (Top_any r8)
          clear b6 r6
          go_wp2_with fail
          refine HTP.out.mono ?_
          rintro e w9 ⟨x, kk, er, rfl, ht, hb9⟩
          have r9 := r8.on hb9
          have b9 := bthen bA hb9 bA.size
          clear r8 b8 bA hb9 HTP
          have hout := r9.out
          go_wp2_with fail
          go_loopw [12, 13] (fun m i wr => ∃ q : Nat, q ≤ n ∧ i = .int .i64 q ∧ m = .int .i64 (cnt T8 q) ∧ wr = w9) (fun _ i _ => n - (intOf i).toNat)
          case atStart => exact ⟨0, Nat.zero_le _, rfl, by rw [cnt_zero]; rfl, rfl⟩
          case round =>
            obtain ⟨q, hq, rfl, rfl, rfl⟩ := hrel
            by_cases hqn : q < n
            · have HKY := Lib.hid (Key_ok r9 q hqn)
              have hcs := cnt_succ T8 q
              have hcl := cnt_le T8 q
              cases hT : T8 q with
              | none =>
                rw [hT] at HKY hcs
                have HC : Hid (cnt T8 (q + 1) = cnt T8 q) := by show _ = _; rw [hcs]; simp
                clear hcs
                go_wp2_with fail
                refine HKY.out.mono ?_
                rintro e w10 ⟨rfl, rfl⟩
                go_wp2_with fail
                exact ⟨⟨q + 1, by omega, by go_num, by rw [HC.out], by simp⟩, by simp [intOf]; omega⟩
              | some z =>
                rw [hT] at HKY hcs
                have HC : Hid (cnt T8 (q + 1) = cnt T8 q + 1) := by show _ = _; rw [hcs]; simp
                obtain ⟨her, hz⟩ := ht.some hT
                subst her
                clear hcs
                obtain ⟨cc, HCC⟩ := named (cnt T8 q)
                rw [HCC.out] at hcl
                have hn1 : ¬ z < kk := by omega
                by_cases heq : z = kk
                · have hn2 : ¬ (q : Int) < x := by omega
                  have hq1 : (z == kk) = true := by simpa using heq
                  clear heq hz
                  rw [HCC.out]
                  go_wp2_with fail
                  refine HKY.out.mono ?_
                  rintro e w10 ⟨rfl, rfl⟩
                  go_wp2_with fail
                  exact ⟨⟨q + 1, by omega, by go_num, by rw [HC.out, HCC.out]; go_num, by simp⟩, by simp [intOf]; omega⟩
                · have hq1 : (z == kk) = false := beq_eq_false_iff_ne.2 heq
                  clear heq hz
                  rw [HCC.out]
                  go_wp2_with fail
                  refine HKY.out.mono ?_
                  rintro e w10 ⟨rfl, rfl⟩
                  go_wp2_with fail
                  exact ⟨⟨q + 1, by omega, by go_num, by rw [HC.out, HCC.out]; go_num, by simp⟩, by simp [intOf]; omega⟩
            · have hqe : q = n := by omega
              subst hqe
              have HLN := Lib.hid (Len_any r9)
              have hcl := cnt_le T8 q
              by_cases hc : 0 < cnt T8 q
              · obtain ⟨her, _⟩ := ht.ok hc
                subst her
                have hc' : (0 : Int) < cnt T8 q := by omega
                obtain ⟨cc, HCC⟩ := named (cnt T8 q)
                rw [HCC.out] at hc' HLN hcl ⊢
                have hc4 : 0 < cc := by omega
                have hc5 : decide (0 < cc) = true := by simpa using hc4
                have hc2 : decide (1 ≤ (cc : Int)) = true := by simp; omega
                have hc3 : decide ((0 : Int) < cc) = true := by simp; omega
                clear hc
                go_wp2_with fail
                refine HLN.out.mono ?_
                rintro e w10 ⟨rfl, rfl⟩
                go_wp2_with fail
                exact ⟨⟨j + 1, T8, D8, by omega, by go_num, r9, hD8, b9⟩, by simp [intOf]; omega⟩
              · have hc0 : cnt T8 q = 0 := by omega
                obtain ⟨her, _⟩ := ht.no hc0
                subst her
                rw [hc0] at HLN ⊢
                clear hc hc0
                go_wp2_with fail
                refine HLN.out.mono ?_
                rintro e w10 ⟨rfl, rfl⟩
                go_wp2_with fail
                exact ⟨⟨j + 1, T8, D8, by omega, by go_num, r9, hD8, b9⟩, by simp [intOf]; omega⟩
      · go_wp2_with fail
        go_ret
        exact ⟨rfl, b6⟩
    · go_wp2_with fail
      go_ret
      exact ⟨rfl, b6⟩
end Go.Proofs.Ytbahlbdnibmjfaa
