/-
  Contract of the reader's method text: a number of bytes, and these.
-/
import Derived.Test.YtchmiiclogmheaaDoorCItemN
namespace Go.Proofs.YtchmiiclogmheaaDoor.C2
open Go.RowKit
/-- What text answers, behind what number answered. -/
def TextOut (s : ByteArray) (rb : Nat) (P : Int → Int → Int → Nat → Prop) (w : World) (e : Ending) (w' : World) : Prop :=
  ∃ n a c k', P n a c k' ∧ Rd rb w w' ∧
    ((c ≠ 0 ∧ e = .returned (.tuple #[.string ⟨#[]⟩, .agg #[.int .i64 a, .int .i64 c]]) ∧ RS w' rb s k')
    ∨ (c = 0 ∧ (s.size : Int) - k' < n ∧ e = .returned (.tuple #[.string ⟨#[]⟩, .agg #[.int .i64 k', .int .i64 23]]) ∧ RS w' rb s k')
    ∨ (c = 0 ∧ n ≤ (s.size : Int) - k' ∧ e = .returned (.tuple #[.string (s.extract k' (k' + n.toNat)), .agg #[.int .i64 0, .int .i64 0]]) ∧ RS w' rb s (k' + n.toNat)))
set_option maxHeartbeats 2000000 in
set_option maxRecDepth 100000 in
theorem text_any (s : ByteArray) (hs : s.size ≤ 262144) (rb k : Nat) (P : Int → Int → Int → Nat → Prop) (hP : ∀ n a c k', P n a c k' → 0 ≤ n ∧ n ≤ 18446744073709551615 ∧ k' ≤ s.size) (w : World) (hr : RS w rb s k)
    (H : ∀ w', RS w' rb s k → Calls Tryd.prog 75 #[.pointer (some ⟨rb, 0, none⟩)] w' (NumOut s rb P w')) :
    Calls Tryd.prog 76 #[.pointer (some ⟨rb, 0, none⟩)] w (TextOut s rb P w) := by
  have hr1 := hr.on ((Below.refl w.heap.size w).alloc (Nat.le_refl _) (.cells #[.int .i64 0, .int .i64 0] 35))
  have HR1 := Lib.hid hr1
  have hrw : Rd rb w (w.alloc (.cells #[.int .i64 0, .int .i64 0] 35)) := Rd.of ((Below.refl w.heap.size w).alloc (Nat.le_refl _) _)
  have hlt := hr.lt
  have HH := Lib.hid H
  clear H hr1 hr
  go_enter Tryd.func76, Tryd.ntmps76
  go_wp2_with fail
  refine (HH.out _ HR1.out).mono ?_
  rintro e w1 ⟨n, a, c, k', rfl, hp, hrd, hrs⟩
  obtain ⟨hn0, hn1, hk'⟩ := hP n a c k' hp
  have hres := (hrd.block w.heap.size (by simp) (by omega)).trans (heap_top w (.cells #[.int .i64 0, .int .i64 0] 35))
  have hrd1 := hrw.trans hrd
  have hsz : w.heap.size < w1.heap.size := lt_of_block hres
  have hz2 : w.heap.size < w1.heap.size + 1 := by omega
  obtain ⟨⟨x0, x1⟩, xf0, xf1⟩ := two_cells hres
  have HRS := Lib.hid hrs
  obtain ⟨rlt, r0, r1, rf⟩ := hrs
  have rlt1 : rb < w1.heap.size + 1 := by omega
  have HRES := Lib.hid hres
  clear hrd hrw hres HR1
  by_cases hc : c = 0
  · subst hc
    have hk2 : (k' : Int) ≤ s.size := by omega
    by_cases hn : (s.size : Int) - k' < n
    · have hn' : ((s.size - k' : Nat) : Int) < n := by omega
      go_wp2_with fail
      go_quiet (fail)
      go_wp2_with fail
      refine (fault_any k' 23 _).mono ?_
      rintro e w2 ⟨rfl, hb2⟩
      have hb12 : Below w1.heap.size w1 w2 := (((Below.refl _ _).alloc (Nat.le_refl _) _).trans (below_drewN _ _ nq)).trans (hb2.mono (by simp))
      obtain ⟨⟨z0, z1⟩, zf0, zf1⟩ := two_cells ((hb12.block _ hsz).trans HRES.out)
      have hrd2 : Rd rb w w2 := hrd1.trans (Rd.of hb12)
      have HRS2 := Lib.hid (HRS.out.on hb12)
      have hsz2 : w.heap.size < w2.heap.size := Nat.lt_of_lt_of_le hsz hb12.size
      clear hb2 hb12 x0 x1 xf0 xf1 r0 r1 rf
      go_wp2_with fail
      refine bodyPost_ret (v := .tuple #[.string ⟨#[]⟩, .agg #[.int .i64 k', .int .i64 23]]) (by simp [results, Tryd.results76, go_sem, z0, z1]) rfl ⟨n, a, 0, k', hp, ?_, Or.inr (Or.inl ⟨rfl, hn, rfl, ?_⟩)⟩
      · exact (hrd2.setNew (a := ⟨w.heap.size, 0, none⟩) (Nat.le_refl _) _).setNew (a := ⟨w.heap.size, 1, none⟩) (Nat.le_refl _) _
      · exact (HRS2.out.setOther (a := ⟨w.heap.size, 0, none⟩) (show w.heap.size ≠ rb by omega) _).setOther (a := ⟨w.heap.size, 1, none⟩) (show w.heap.size ≠ rb by omega) _
    · have hn' : ¬ ((s.size - k' : Nat) : Int) < n := by omega
      obtain ⟨m, rfl⟩ : ∃ m : Nat, n = m := ⟨n.toNat, by omega⟩
      have hm1 : m ≤ s.size - k' := by omega
      have hm2 : (m : Int) ≤ ((s.size - k' : Nat) : Int) := by omega
      have EX : Hid ((s.extract k' s.size).extract 0 m = s.extract k' (k' + m)) := by
        show _ = _
        apply ByteArray.ext
        apply Array.toList_inj.1
        rw [extract_list, extract_list, extract_list, List.drop_zero, Nat.sub_zero, show k' + m - k' = m by omega, List.take_take, Nat.min_eq_left (by omega)]
      have hcl := fun w : World => clone_any (s.extract k' (k' + m)) (by rw [extract_size]; omega) w
      have HCL := Lib.hid hcl
      clear hcl
      go_wp2_with fail
      go_quiet (fail)
      go_wp2_with fail
      rw [EX.out]
      refine (HCL.out _).mono ?_
      rintro e w2 ⟨rfl, hb2⟩
      have hbA : Below w1.heap.size w1 ((w1.alloc (.cells #[.int .i64 a, .int .i64 0] 35)).drewN nq) := ((Below.refl _ _).alloc (Nat.le_refl _) _).trans (below_drewN _ _ nq)
      have hrs2 := ((HRS.out.on hbA).set (k' + m)).on hb2
      have hrdA : Rd rb w1 w2 := (Rd.of hbA).trans ((Rd.set _ 1 (.int .i64 ((k' : Int) + m))).trans (Rd.of hb2))
      obtain ⟨⟨z0, z1⟩, zf0, zf1⟩ := two_cells ((hrdA.block _ hsz (by omega)).trans HRES.out)
      have hrd2 : Rd rb w w2 := hrd1.trans hrdA
      have HRS2 := Lib.hid hrs2
      have hsz2 : w.heap.size < w2.heap.size := Nat.lt_of_lt_of_le hsz hrdA.size
      clear hb2 hrdA hbA x0 x1 xf0 xf1 r0 r1 rf hrs2
      obtain ⟨bs, HBS⟩ := named (s.extract k' (k' + m))
      rw [HBS.out]
      go_wp2_with fail
      refine bodyPost_ret (v := .tuple #[.string bs, .agg #[.int .i64 0, .int .i64 0]]) (by simp [results, Tryd.results76, go_sem, z0, z1]) rfl ⟨m, a, 0, k', hp, ?_, Or.inr (Or.inr ⟨rfl, hn, by rw [Int.toNat_natCast, HBS.out], ?_⟩)⟩
      · exact (hrd2.setNew (a := ⟨w.heap.size, 0, none⟩) (Nat.le_refl _) _).setNew (a := ⟨w.heap.size, 1, none⟩) (Nat.le_refl _) _
      · rw [Int.toNat_natCast]
        exact (HRS2.out.setOther (a := ⟨w.heap.size, 0, none⟩) (show w.heap.size ≠ rb by omega) _).setOther (a := ⟨w.heap.size, 1, none⟩) (show w.heap.size ≠ rb by omega) _
  · have hcb : (c == 0) = false := beq_eq_false_iff_ne.2 hc
    go_wp2_with fail
    go_region
    go_wp2_with fail
    refine bodyPost_ret (v := .tuple #[.string ⟨#[]⟩, .agg #[.int .i64 a, .int .i64 c]]) (by simp [results, Tryd.results76, go_sem, x0, x1, hsz]) rfl ⟨n, a, c, k', hp, ?_, Or.inl ⟨hc, rfl, ?_⟩⟩
    · refine Rd.trans ?_ (Rd.of ((Below.refl _ _).drew))
      exact ((hrd1.setNew (a := ⟨w.heap.size, 0, none⟩) (Nat.le_refl _) _).setNew (a := ⟨w.heap.size, 1, none⟩) (Nat.le_refl _) _).trans (Rd.of ((Below.refl _ _).alloc (Nat.le_refl _) _))
    · refine RS.on ?_ ((Below.refl _ _).drew)
      exact ((HRS.out.setOther (a := ⟨w.heap.size, 0, none⟩) (show w.heap.size ≠ rb by omega) _).setOther (a := ⟨w.heap.size, 1, none⟩) (show w.heap.size ≠ rb by omega) _).on ((Below.refl _ _).alloc (Nat.le_refl _) _)
end Go.Proofs.YtchmiiclogmheaaDoor.C2
