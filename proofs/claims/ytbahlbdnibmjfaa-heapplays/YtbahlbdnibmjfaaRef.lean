/-
  The reference's heap, a table that is gone over: contracts of none, Lower, Top, Pop, Drop, Key and Len.
-/
import Derived.Test.YtbahlbdnibmjfaaCells
namespace Go.Proofs.Ytbahlbdnibmjfaa
open Go.RowKit
/-- The reference's heap in memory. -/
structure RRep (w : World) (g bT bK n : Nat) (th : List Bool) (ks : List Int) : Prop where
  hd : w.heap[g]? = some (.cells #[.slice (some ⟨bT, 0, none⟩) n n, .slice (some ⟨bK, 0, none⟩) n n] 59 (0, 0))
  tb : w.heap[bT]? = some (.cells (cellsB th).toArray 4 (0, 0))
  kb : w.heap[bK]? = some (.cells (cellsU ks).toArray 32 (0, 0))
  n1 : g ≠ bT
  n2 : g ≠ bK
  n3 : bT ≠ bK
  tn : th.length = n
  kn : ks.length = n
  nb : n ≤ 16384
/-- What its lists say. -/
def RT (n : Nat) (th : List Bool) (ks : List Int) (T : Nat → Option Int) : Prop := (∀ x, x < n → T x = if th.getD x false then some (ks.getD x 0) else none) ∧ ∀ x, n ≤ x → T x = none
def Dr (g bT bK k : Nat) : Prop := k = g ∨ k = bT ∨ k = bK
def RR (w : World) (g n : Nat) (T : Nat → Option Int) (D : Nat → Prop) : Prop := ∃ bT bK th ks, RRep w g bT bK n th ks ∧ RT n th ks T ∧ D = Dr g bT bK
section
variable {w w' : World} {g bT bK n : Nat} {th : List Bool} {ks : List Int} {T : Nat → Option Int} {D : Nat → Prop}
theorem RRep.same (r : RRep w g bT bK n th ks) (hs : ∀ k, Dr g bT bK k → w'.heap[k]? = w.heap[k]?) : RRep w' g bT bK n th ks :=
  ⟨(hs g (Or.inl rfl)).trans r.hd, (hs bT (Or.inr (Or.inl rfl))).trans r.tb, (hs bK (Or.inr (Or.inr rfl))).trans r.kb, r.n1, r.n2, r.n3, r.tn, r.kn, r.nb⟩
theorem RRep.lt (r : RRep w g bT bK n th ks) : ∀ k, Dr g bT bK k → k < w.heap.size := by
  rintro k (rfl | rfl | rfl)
  · exact lt_of_block r.hd
  · exact lt_of_block r.tb
  · exact lt_of_block r.kb
theorem RRep.on (r : RRep w g bT bK n th ks) (hb : Below w.heap.size w w') : RRep w' g bT bK n th ks := r.same (fun k hk => hb.block k (r.lt k hk))
theorem RR.same (r : RR w g n T D) (hs : ∀ k, D k → w'.heap[k]? = w.heap[k]?) : RR w' g n T D := by
  obtain ⟨bT, bK, th, ks, r, f, rfl⟩ := r
  exact ⟨bT, bK, th, ks, r.same hs, f, rfl⟩
theorem RR.lt (r : RR w g n T D) : ∀ k, D k → k < w.heap.size := by
  obtain ⟨bT, bK, th, ks, r, f, rfl⟩ := r
  exact r.lt
theorem RR.on (r : RR w g n T D) (hb : Below w.heap.size w w') : RR w' g n T D := r.same (fun k hk => hb.block k (r.lt k hk))
theorem RR.fr {D' : Nat → Prop} (r : RR w g n T D) (f : Fr D' w w') (hd : ∀ k, D k → ¬ D' k) : RR w' g n T D := r.same (fun k hk => f.block k (r.lt k hk) (hd k hk))
theorem RRep.setT (r : RRep w g bT bK n th ks) (x : Nat) (v : Bool) : RRep (w.setCell ⟨bT, x, none⟩ (.bool v)) g bT bK n (th.set x v) ks :=
  ⟨(heap_setCell_other w ⟨bT, x, none⟩ g _ r.n1).trans r.hd, cellsB_set r.tb x v, (heap_setCell_other w ⟨bT, x, none⟩ bK _ (fun e => r.n3 e.symm)).trans r.kb, r.n1, r.n2, r.n3, by simp [r.tn], r.kn, r.nb⟩
theorem RRep.setK (r : RRep w g bT bK n th ks) (x : Nat) (v : Int) : RRep (w.setCell ⟨bK, x, none⟩ (.int .u64 v)) g bT bK n th (ks.set x v) :=
  ⟨(heap_setCell_other w ⟨bK, x, none⟩ g _ r.n2).trans r.hd, (heap_setCell_other w ⟨bK, x, none⟩ bT _ r.n3).trans r.tb, cellsU_set r.kb x v, r.n1, r.n2, r.n3, r.tn, by simp [r.kn], r.nb⟩
theorem RT.put (f : RT n th ks T) {x : Nat} (hx : x < n) (ht : th.length = n) (hk : ks.length = n) (v : Int) : RT n (th.set x true) (ks.set x v) (upd T x (some v)) := by
  refine ⟨fun y hy => ?_, fun y hy => by rw [upd_ne _ _ (by omega)]; exact f.2 y hy⟩
  rw [getD_setB (by omega), getD_setI (by omega)]
  by_cases e : y = x
  · subst e; simp [upd_self]
  · rw [if_neg e, if_neg e, upd_ne _ _ e]; exact f.1 y hy
theorem RT.drop (f : RT n th ks T) {x : Nat} (hx : x < n) (ht : th.length = n) : RT n (th.set x false) ks (upd T x none) := by
  refine ⟨fun y hy => ?_, fun y hy => by rw [upd_ne _ _ (by omega)]; exact f.2 y hy⟩
  rw [getD_setB (by omega)]
  by_cases e : y = x
  · subst e; rw [if_pos rfl, upd_self]; rfl
  · rw [if_neg e, upd_ne _ _ e]; exact f.1 y hy
set_option maxHeartbeats 400000 in
theorem none_any (r : RRep w g bT bK n th ks) (x : Int) :
    Calls Try.prog 31 #[.pointer (some ⟨g, 0, none⟩), .int .i64 x] w fun e w' => e = .returned (.bool (!okI n x)) ∧ w' = w := by
  obtain ⟨⟨c0, c1⟩, f0, f1⟩ := cells2 r.hd
  by_cases h1 : x < 0
  · rw [show (!okI n x) = true by simp [okI]; omega]
    go_enter Try.func31, Try.ntmps31
    go_wp2_with fail
    go_ret
    exact ⟨rfl, rfl⟩
  · by_cases h2 : (n : Int) ≤ x
    · rw [show (!okI n x) = true by simp [okI]; omega]
      go_enter Try.func31, Try.ntmps31
      go_wp2_with fail
      go_ret
      exact ⟨rfl, rfl⟩
    · rw [show (!okI n x) = false by simp [okI]; omega]
      go_enter Try.func31, Try.ntmps31
      go_wp2_with fail
      go_ret
      exact ⟨rfl, rfl⟩
set_option maxHeartbeats 800000 in
theorem RLower_any (r : RR w g n T D) (x key : Int) :
    Calls Try.prog 22 #[.pointer (some ⟨g, 0, none⟩), .int .i64 x, .int .u64 key] w fun e w' => e = .returned (.tuple #[.bool (lowB n T x key), .int .i64 (lowE n x)]) ∧ RR w' g n (lowTT n T x key) D ∧ Fr D w w' := by
  have r0 := r
  obtain ⟨bT, bK, th, ks, r, f, rfl⟩ := r
  have HM := Lib.hid (none_any r x)
  cases hok : okI n x with
  | true =>
    have h1 : 0 ≤ x ∧ x < n := by simpa [okI] using hok
    obtain ⟨y, rfl⟩ : ∃ y : Nat, x = y := ⟨x.toNat, by omega⟩
    have hy : y < n := by omega
    rw [show lowB n T y key = low T y key by simp [lowB, hok], show lowE n y = 0 by simp [lowE, hok], show lowTT n T y key = lowT T y key by simp [lowTT, hok]]
    rw [hok] at HM
    clear hok
    obtain ⟨⟨c0, c1⟩, f0, f1⟩ := cells2 r.hd
    obtain ⟨d0, e0⟩ := cellsB_at r.tb y (by rw [r.tn]; exact hy)
    obtain ⟨d1, e1⟩ := cellsU_at r.kb y (by rw [r.kn]; exact hy)
    have hT := f.1 y hy
    have n1 := r.n1
    have n2 := r.n2
    have n3 := r.n3
    have HR2 := Lib.hid ((r.setT y true).setK y key)
    have HF2 := Lib.hid (((Fr.refl (Dr g bT bK) w).setCell ⟨bT, y, none⟩ (.bool true) (Or.inl (Or.inr (Or.inl rfl)))).setCell ⟨bK, y, none⟩ (.int .u64 key) (Or.inl (Or.inr (Or.inr rfl))))
    have HT2 := Lib.hid (f.put hy r.tn r.kn key)
    obtain ⟨q, HQ⟩ := named (ks.getD y 0)
    rw [HQ.out] at d1 hT
    cases hth : th.getD y false with
    | true =>
      rw [hth] at hT d0
      rw [if_pos rfl] at hT
      by_cases hk : key < q
      · rw [show low T y key = true by simp [low, hT, hk], show lowT T y key = upd T y (some key) by simp [lowT, low, hT, hk]]
        have hk' : ¬ q ≤ key := by omega
        clear hT hth
        go_enter Try.func22, Try.ntmps22
        go_wp2_with fail
        refine HM.out.mono ?_
        rintro e w1 ⟨rfl, rfl⟩
        go_wp2_with fail
        go_region
        go_wp2_with fail
        go_ret2
        exact ⟨rfl, ⟨bT, bK, _, _, HR2.out.same (fun _ _ => rfl), HT2.out, rfl⟩, HF2.out.drew⟩
      · rw [show low T y key = false by simp [low, hT, hk], show lowT T y key = T by simp [lowT, low, hT, hk]]
        have hk' : q ≤ key := by omega
        clear hT hth
        go_enter Try.func22, Try.ntmps22
        go_wp2_with fail
        refine HM.out.mono ?_
        rintro e w1 ⟨rfl, rfl⟩
        go_wp2_with fail
        go_ret2
        exact ⟨rfl, r0, Fr.refl _ _⟩
    | false =>
      rw [hth] at hT d0
      rw [if_neg (by simp)] at hT
      rw [show low T y key = true by simp [low, hT], show lowT T y key = upd T y (some key) by simp [lowT, low, hT]]
      clear hT hth
      go_enter Try.func22, Try.ntmps22
      go_wp2_with fail
      refine HM.out.mono ?_
      rintro e w1 ⟨rfl, rfl⟩
      go_wp2_with fail
      go_region
      go_wp2_with fail
      go_ret2
      exact ⟨rfl, ⟨bT, bK, _, _, HR2.out.same (fun _ _ => rfl), HT2.out, rfl⟩, HF2.out.drew⟩
  | false =>
    rw [show lowB n T x key = false by simp [lowB, hok], show lowE n x = 5 by simp [lowE, hok], show lowTT n T x key = T by simp [lowTT, hok]]
    rw [hok] at HM
    clear hok
    go_enter Try.func22, Try.ntmps22
    go_wp2_with fail
    refine HM.out.mono ?_
    rintro e w1 ⟨rfl, rfl⟩
    go_wp2_with fail
    go_ret2
    exact ⟨rfl, r0, Fr.refl _ _⟩
set_option maxHeartbeats 800000 in
theorem RDrop_any (r : RR w g n T D) (x : Int) :
    Calls Try.prog 25 #[.pointer (some ⟨g, 0, none⟩), .int .i64 x] w fun e w' => e = .returned (.tuple #[.bool (dropB n T x), .int .i64 (lowE n x)]) ∧ RR w' g n (dropT n T x) D ∧ Fr D w w' := by
  have r0 := r
  obtain ⟨bT, bK, th, ks, r, f, rfl⟩ := r
  have HM := Lib.hid (none_any r x)
  cases hok : okI n x with
  | true =>
    have h1 : 0 ≤ x ∧ x < n := by simpa [okI] using hok
    obtain ⟨y, rfl⟩ : ∃ y : Nat, x = y := ⟨x.toNat, by omega⟩
    have hy : y < n := by omega
    have hT := f.1 y hy
    rw [show dropB n T y = th.getD y false by cases h9 : th.getD y false <;> rw [h9] at hT <;> simp [dropB, hok, hT], show lowE n y = 0 by simp [lowE, hok], show dropT n T y = upd T y none by simp [dropT, hok]]
    rw [hok] at HM
    clear hok hT
    obtain ⟨⟨c0, c1⟩, f0, f1⟩ := cells2 r.hd
    obtain ⟨d0, e0⟩ := cellsB_at r.tb y (by rw [r.tn]; exact hy)
    have n1 := r.n1
    have HR2 := Lib.hid (r.setT y false)
    have HF2 := Lib.hid ((Fr.refl (Dr g bT bK) w).setCell ⟨bT, y, none⟩ (.bool false) (Or.inl (Or.inr (Or.inl rfl))))
    have HT2 := Lib.hid (f.drop hy r.tn)
    generalize th.getD y false = t at *
    go_enter Try.func25, Try.ntmps25
    go_wp2_with fail
    refine HM.out.mono ?_
    rintro e w1 ⟨rfl, rfl⟩
    go_wp2_with fail
    go_ret2
    exact ⟨rfl, ⟨bT, bK, _, _, HR2.out, HT2.out, rfl⟩, HF2.out⟩
  | false =>
    rw [show dropB n T x = false by simp [dropB, hok], show lowE n x = 5 by simp [lowE, hok], show dropT n T x = T by simp [dropT, hok]]
    rw [hok] at HM
    clear hok
    go_enter Try.func25, Try.ntmps25
    go_wp2_with fail
    refine HM.out.mono ?_
    rintro e w1 ⟨rfl, rfl⟩
    go_wp2_with fail
    go_ret2
    exact ⟨rfl, r0, Fr.refl _ _⟩
set_option maxHeartbeats 800000 in
theorem RKey_any (r : RR w g n T D) (x : Int) :
    Calls Try.prog 26 #[.pointer (some ⟨g, 0, none⟩), .int .i64 x] w fun e w' => e = .returned (.tuple #[.int .u64 (keyK n T x), .bool (dropB n T x), .int .i64 (lowE n x)]) ∧ w' = w := by
  obtain ⟨bT, bK, th, ks, r, f, rfl⟩ := r
  have HM := Lib.hid (none_any r x)
  cases hok : okI n x with
  | true =>
    have h1 : 0 ≤ x ∧ x < n := by simpa [okI] using hok
    obtain ⟨y, rfl⟩ : ∃ y : Nat, x = y := ⟨x.toNat, by omega⟩
    have hy : y < n := by omega
    have hT := f.1 y hy
    rw [hok] at HM
    obtain ⟨⟨c0, c1⟩, f0, f1⟩ := cells2 r.hd
    obtain ⟨d0, e0⟩ := cellsB_at r.tb y (by rw [r.tn]; exact hy)
    obtain ⟨d1, e1⟩ := cellsU_at r.kb y (by rw [r.kn]; exact hy)
    rw [show dropB n T y = (T y).isSome by simp [dropB, hok], show lowE n y = 0 by simp [lowE, hok], show keyK n T y = (T y).getD 0 by simp [keyK, hok]]
    clear hok
    generalize ks.getD y 0 = q at *
    cases hth : th.getD y false with
    | true =>
      rw [hth] at hT d0
      rw [if_pos rfl] at hT
      rw [hT]
      clear hT hth
      go_enter Try.func26, Try.ntmps26
      go_wp2_with fail
      refine HM.out.mono ?_
      rintro e w1 ⟨rfl, rfl⟩
      go_wp2_with fail
      go_ret3
      exact ⟨rfl, rfl⟩
    | false =>
      rw [hth] at hT d0
      rw [if_neg (by simp)] at hT
      rw [hT]
      clear hT hth
      go_enter Try.func26, Try.ntmps26
      go_wp2_with fail
      refine HM.out.mono ?_
      rintro e w1 ⟨rfl, rfl⟩
      go_wp2_with fail
      go_ret3
      exact ⟨rfl, rfl⟩
  | false =>
    rw [show dropB n T x = false by simp [dropB, hok], show lowE n x = 5 by simp [lowE, hok], show keyK n T x = 0 by simp [keyK, hok]]
    rw [hok] at HM
    clear hok
    go_enter Try.func26, Try.ntmps26
    go_wp2_with fail
    refine HM.out.mono ?_
    rintro e w1 ⟨rfl, rfl⟩
    go_wp2_with fail
    go_ret3
    exact ⟨rfl, rfl⟩
set_option maxHeartbeats 800000 in
theorem RLen_any (r : RR w g n T D) :
    Calls Try.prog 12 #[.pointer (some ⟨g, 0, none⟩)] w fun e w' => e = .returned (.int .i64 (cnt T n)) ∧ w' = w := by
  obtain ⟨bT, bK, th, ks, r, f, rfl⟩ := r
  have hnb := r.nb
  obtain ⟨⟨c0, c1⟩, f0, f1⟩ := cells2 r.hd
  go_enter Try.func12, Try.ntmps12
  go_wp2_with fail
  go_loopw [3, 4] (fun m i wr => ∃ k : Nat, k ≤ n ∧ i = .int .i64 k ∧ m = .int .i64 (cnt T k) ∧ wr = w) (fun _ i _ => n - (intOf i).toNat)
  case atStart => exact ⟨0, Nat.zero_le _, rfl, by rw [cnt_zero]; rfl, rfl⟩
  case round =>
    obtain ⟨k, hk, rfl, rfl, rfl⟩ := hrel
    by_cases hlt : k < n
    · obtain ⟨d0, e0⟩ := cellsB_at r.tb k (by rw [r.tn]; exact hlt)
      have hT := f.1 k hlt
      have hcs := cnt_succ T k
      have hcl := cnt_le T k
      cases hth : th.getD k false with
      | true =>
        rw [hth] at hT d0
        rw [if_pos rfl] at hT
        have HC : Hid (cnt T (k + 1) = cnt T k + 1) := by show _ = _; rw [hcs, hT]; simp
        clear hT hth hcs
        go_wp2_with fail
        exact ⟨⟨k + 1, by omega, by go_num, by rw [HC.out]; go_num, by simp⟩, by simp [intOf]; omega⟩
      | false =>
        rw [hth] at hT d0
        rw [if_neg (by simp)] at hT
        have HC : Hid (cnt T (k + 1) = cnt T k) := by show _ = _; rw [hcs, hT]; simp
        clear hT hth hcs
        go_wp2_with fail
        exact ⟨⟨k + 1, by omega, by go_num, by rw [HC.out], by simp⟩, by simp [intOf]; omega⟩
    · have hkn : k = n := by omega
      subst hkn
      go_wp2_with fail
      go_ret
      exact ⟨rfl, rfl⟩
end
end Go.Proofs.Ytbahlbdnibmjfaa
