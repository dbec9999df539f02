/-
  Contracts of the reference's Top, Pop and New.
-/
import Derived.Test.YtbahlbdnibmjfaaRef
import Derived.BigRegion
namespace Go.Proofs.Ytbahlbdnibmjfaa
open Go.RowKit
/-- The best number so far. -/
def BestIs (T : Nat → Option Int) (k : Nat) (best : Int) : Prop :=
  (best = -1 ∧ ∀ y, y < k → T y = none) ∨ ∃ (m : Nat) (q : Int), best = m ∧ m < k ∧ T m = some q ∧ ∀ y, y < k → ∀ q', T y = some q' → q < q' ∨ q = q' ∧ m ≤ y
theorem BestIs.skip {T : Nat → Option Int} {k : Nat} {best : Int} (h : BestIs T k best) (hk : T k = none) : BestIs T (k + 1) best := by
  rcases h with ⟨a, b⟩ | ⟨m, q, a, b, c, d⟩
  · refine Or.inl ⟨a, fun y hy => ?_⟩
    by_cases e : y = k
    · rw [e]; exact hk
    · exact b y (by omega)
  · refine Or.inr ⟨m, q, a, by omega, c, fun y hy q' hq => ?_⟩
    by_cases e : y = k
    · rw [e, hk] at hq; cases hq
    · exact d y (by omega) q' hq
theorem BestIs.stay {T : Nat → Option Int} {k m : Nat} {q kk : Int} (hm : m < k) (hq : T m = some q) (hd : ∀ y, y < k → ∀ q', T y = some q' → q < q' ∨ q = q' ∧ m ≤ y) (hk : T k = some kk) (hle : ¬ kk < q) : BestIs T (k + 1) m := by
  refine Or.inr ⟨m, q, rfl, by omega, hq, fun y hy q' hq' => ?_⟩
  by_cases e : y = k
  · rw [e, hk] at hq'
    injection hq' with hq'
    omega
  · exact hd y (by omega) q' hq'
theorem BestIs.first {T : Nat → Option Int} {k : Nat} {kk : Int} (hd : ∀ y, y < k → T y = none) (hk : T k = some kk) : BestIs T (k + 1) k := by
  refine Or.inr ⟨k, kk, rfl, by omega, hk, fun y hy q' hq' => ?_⟩
  by_cases e : y = k
  · rw [e, hk] at hq'
    injection hq' with hq'
    omega
  · rw [hd y (by omega)] at hq'; cases hq'
theorem BestIs.turn {T : Nat → Option Int} {k m : Nat} {q kk : Int} (hd : ∀ y, y < k → ∀ q', T y = some q' → q < q' ∨ q = q' ∧ m ≤ y) (hk : T k = some kk) (hlt : kk < q) : BestIs T (k + 1) k := by
  refine Or.inr ⟨k, kk, rfl, by omega, hk, fun y hy q' hq' => ?_⟩
  by_cases e : y = k
  · rw [e, hk] at hq'
    injection hq' with hq'
    omega
  · have := hd y (by omega) q' hq'
    omega
section
variable {w w' : World} {g bT bK n : Nat} {th : List Bool} {ks : List Int} {T : Nat → Option Int} {D : Nat → Prop}
theorem drewN_below (w : World) (q : Nat) : Below w.heap.size w (w.drewN q) := ⟨rfl, rfl, rfl, Nat.le_refl _, fun _ _ => rfl⟩
set_option maxHeartbeats 1600000 in
theorem RTop_any (r : RR w g n T D) :
    Calls Try.prog 24 #[.pointer (some ⟨g, 0, none⟩)] w fun e w' => ∃ (x : Nat) (k er : Int), e = .returned (.tuple #[.int .i64 x, .int .u64 k, .int .i64 er]) ∧ TopIs n T x k er ∧ Below w.heap.size w w' := by
  obtain ⟨bT, bK, th, ks, r, f, rfl⟩ := r
  have hnb := r.nb
  obtain ⟨⟨c0, c1⟩, f0, f1⟩ := cells2 r.hd
  go_enter Try.func24, Try.ntmps24
  go_wp2_with fail
  go_loopw [5, 6] (fun bs i wr => ∃ (k : Nat) (best : Int), k ≤ n ∧ i = .int .i64 k ∧ bs = .int .i64 best ∧ BestIs T k best ∧ Below w.heap.size w wr) (fun _ i _ => n - (intOf i).toNat)
  case atStart => exact ⟨0, -1, Nat.zero_le _, rfl, rfl, Or.inl ⟨rfl, fun y hy => by omega⟩, Below.refl _ _⟩
  case round =>
    obtain ⟨k, best, hk, rfl, rfl, HB, b4⟩ := hrel
    have r4 := r.on b4
    clear c0 c1 f0 f1
    obtain ⟨⟨c0, c1⟩, f0, f1⟩ := cells2 r4.hd
    by_cases hlt : k < n
    · obtain ⟨d0, e0⟩ := cellsB_at r4.tb k (by rw [r.tn]; exact hlt)
      obtain ⟨d1, e1⟩ := cellsU_at r4.kb k (by rw [r.kn]; exact hlt)
      have hT := f.1 k hlt
      obtain ⟨kk, HK⟩ := named (ks.getD k 0)
      rw [HK.out] at d1 hT
      cases hth : th.getD k false with
      | false =>
        rw [hth] at hT d0
        rw [if_neg (by simp)] at hT
        have HN := Lib.hid (HB.skip hT)
        clear hT hth HB
        go_wp2_with fail
        go_quiet (fail)
        go_wp2_with fail
        exact ⟨⟨k + 1, best, by omega, by go_num, rfl, HN.out, bthen b4 (drewN_below _ _) b4.size⟩, by simp [intOf]; omega⟩
      | true =>
        rw [hth] at hT d0
        rw [if_pos rfl] at hT
        rcases HB with ⟨rfl, hno⟩ | ⟨m, q, rfl, hm, hq, hd⟩
        · have HN := Lib.hid (BestIs.first hno hT)
          clear hT hth hno
          go_wp2_with fail
          go_quiet (fail)
          go_wp2_with fail
          exact ⟨⟨k + 1, k, by omega, by go_num, rfl, HN.out, bthen b4 (drewN_below _ _) b4.size⟩, by simp [intOf]; omega⟩
        · obtain ⟨d2, e2⟩ := cellsU_at r4.kb m (by rw [r.kn]; omega)
          have hTm := f.1 m (by omega)
          rw [hq] at hTm
          have hqm : ks.getD m 0 = q := by
            cases h9 : th.getD m false with
            | true => rw [h9, if_pos rfl] at hTm; exact (Option.some.inj hTm).symm
            | false => rw [h9, if_neg (by simp)] at hTm; cases hTm
          rw [hqm] at d2
          have hm0 : decide ((m : Int) < 0) = false := by simp
          have hm1 : (m : Int) < n := by omega
          by_cases hlq : kk < q
          · have HN := Lib.hid (BestIs.turn hd hT hlq)
            have hlq' : decide (kk < q) = true := by simpa using hlq
            clear hT hth hd hTm hqm hq
            go_wp2_with fail
            go_quiet (fail)
            go_wp2_with fail
            exact ⟨⟨k + 1, k, by omega, by go_num, rfl, HN.out, bthen b4 (drewN_below _ _) b4.size⟩, by simp [intOf]; omega⟩
          · have HN := Lib.hid (BestIs.stay hm hq hd hT hlq)
            have hlq' : decide (kk < q) = false := by simpa using hlq
            clear hT hth hd hTm hqm hq
            go_wp2_with fail
            go_quiet (fail)
            go_wp2_with fail
            exact ⟨⟨k + 1, m, by omega, by go_num, rfl, HN.out, bthen b4 (drewN_below _ _) b4.size⟩, by simp [intOf]; omega⟩
    · have hkn : k = n := by omega
      rcases HB with ⟨rfl, hno⟩ | ⟨m, q, rfl, hm, hq, hd⟩
      · have HT : Hid (TopIs n T 0 0 5) := Or.inr ⟨rfl, rfl, rfl, fun y => by
          by_cases hy : y < n
          · exact hno y (by omega)
          · exact f.2 y (by omega)⟩
        clear hno
        go_wp2_with fail
        go_ret3
        exact ⟨0, 0, 5, rfl, HT.out, b4⟩
      · have hTm := f.1 m (by omega)
        rw [hq] at hTm
        have hqm : ks.getD m 0 = q := by
          cases h9 : th.getD m false with
          | true => rw [h9, if_pos rfl] at hTm; exact (Option.some.inj hTm).symm
          | false => rw [h9, if_neg (by simp)] at hTm; cases hTm
        obtain ⟨d2, e2⟩ := cellsU_at r4.kb m (by rw [r.kn]; omega)
        rw [hqm] at d2
        have HT : Hid (TopIs n T m q 0) := Or.inl ⟨rfl, hq, by omega, fun y k' hy => by
          by_cases hyn : y < n
          · exact hd y (by omega) k' hy
          · rw [f.2 y (by omega)] at hy; cases hy⟩
        have hm1 : (m : Int) < n := by omega
        have hm2 : ¬ (m : Int) < 0 := by omega
        clear hTm hqm hq hd
        go_wp2_with fail
        go_quiet (fail)
        go_wp2_with fail
        go_ret3
        exact ⟨m, q, 0, rfl, HT.out, bthen b4 (drewN_below _ _) b4.size⟩
set_option maxHeartbeats 1600000 in
theorem RPop_any (r : RR w g n T D) :
    Calls Try.prog 23 #[.pointer (some ⟨g, 0, none⟩)] w fun e w' => ∃ (x : Nat) (k er : Int), e = .returned (.tuple #[.int .i64 x, .int .u64 k, .int .i64 er]) ∧ TopIs n T x k er ∧ RR w' g n (if er = 0 then upd T x none else T) D ∧ Fr D w w' := by
  have HTOP := Lib.hid (RTop_any r)
  have r0 := r
  obtain ⟨bT, bK, th, ks, r, f, rfl⟩ := r
  go_enter Try.func23, Try.ntmps23
  go_wp2_with fail
  refine HTOP.out.mono ?_
  rintro e w1 ⟨x, k, er, rfl, ht, hb1⟩
  by_cases he : er = 0
  · subst he
    have hxn : x < n := by
      rcases ht with ⟨_, _, a, _⟩ | ⟨a, _⟩
      · exact a
      · cases a
    have r1 := r.on hb1
    obtain ⟨⟨c0, c1⟩, f0, f1⟩ := cells2 r1.hd
    obtain ⟨d0, e0⟩ := cellsB_at r1.tb x (by rw [r.tn]; exact hxn)
    have HR2 := Lib.hid (r1.setT x false)
    have HF2 := Lib.hid (((Fr.of (D := Dr g bT bK) hb1)).setCell ⟨bT, x, none⟩ (.bool false) (Or.inl (Or.inr (Or.inl rfl))))
    have HT2 := Lib.hid (f.drop hxn r.tn)
    have hx1 : (x : Int) < n := by omega
    go_wp2_with fail
    go_ret3
    exact ⟨x, k, 0, rfl, ht, ⟨bT, bK, _, _, HR2.out, by rw [if_pos rfl]; exact HT2.out, rfl⟩, HF2.out⟩
  · have he' : (er == 0) = false := beq_eq_false_iff_ne.2 he
    go_wp2_with fail
    go_ret3
    exact ⟨x, k, er, rfl, ht, by rw [if_neg he]; exact r0.on hb1, Fr.of hb1⟩
end
set_option maxHeartbeats 800000 in
theorem RNew_no (n : Int) (hn : ¬ (0 ≤ n ∧ n ≤ 16384)) (w : World) :
    Calls Try.prog 9 #[.int .i64 n] w fun e w' => e = .returned (.tuple #[.pointer none, .int .i64 1]) ∧ w' = w := by
  by_cases h0 : n < 0
  · go_enter Try.func9, Try.ntmps9
    go_wp2_with fail
    go_ret2
    exact ⟨rfl, rfl⟩
  · have h1 : 16384 < n := by omega
    clear hn
    go_enter Try.func9, Try.ntmps9
    go_wp2_with fail
    go_ret2
    exact ⟨rfl, rfl⟩
theorem three_new (w : World) (A B C : Obj) : (((w.alloc A).alloc B).alloc C).heap[w.heap.size]? = some A ∧ (((w.alloc A).alloc B).alloc C).heap[w.heap.size + 1]? = some B ∧ (((w.alloc A).alloc B).alloc C).heap[w.heap.size + 1 + 1]? = some C ∧ Below w.heap.size w (((w.alloc A).alloc B).alloc C) := by
  have s1 : (w.alloc A).heap.size = w.heap.size + 1 := by simp
  have s2 : ((w.alloc A).alloc B).heap.size = w.heap.size + 1 + 1 := by simp
  refine ⟨(Below.heap_alloc _ _ _ (by omega)).trans ((Below.heap_alloc _ _ _ (by omega)).trans (heap_top w A)), ?_, ?_, (((Below.refl _ _).alloc (Nat.le_refl _) _).alloc (by omega) _).alloc (by omega) _⟩
  · have := heap_top (w.alloc A) B
    rw [s1] at this
    exact (Below.heap_alloc _ _ _ (by omega)).trans this
  · have := heap_top ((w.alloc A).alloc B) C
    rw [s2] at this
    exact this
theorem rt_new (n : Nat) : RT n (List.replicate n false) (List.replicate n 0) (fun _ => none) :=
  ⟨fun x hx => by simp [List.getD_eq_getElem?_getD, hx], fun _ _ => rfl⟩
set_option maxHeartbeats 1600000 in
theorem RNew_any (n : Nat) (hn : n ≤ 16384) (w : World) :
    Calls Try.prog 9 #[.int .i64 n] w fun e w' => ∃ g D, e = .returned (.tuple #[.pointer (some ⟨g, 0, none⟩), .int .i64 0]) ∧ RR w' g n (fun _ => none) D ∧ (∀ k, D k → w.heap.size ≤ k) ∧ Below w.heap.size w w' := by
  have h1 : ¬ (16384 : Int) < n := by omega
  obtain ⟨i32, hi32, hz0, hz1, hz2⟩ := info_parts info32
  obtain ⟨i4, hi4, hy0, hy1, hy2⟩ := info_parts info4
  have hmT : ∀ w, (Instr.makeSlice 40 (.int .i64 n) (.int .i64 n)).run Try.prog w = .ok (.slice (some ⟨w.heap.size, 0, none⟩) n n) (w.alloc (.cells (cellsB (List.replicate n false)).toArray 4)) := fun w => by
    have := run_make (P := Try.prog) w 40 4 i4 (.bool false) Try.underlying40 hi4 hy0 .i64 .i64 n n (by omega) (by omega) (by rw [hy2]; omega) (by omega)
    rw [hy1] at this
    rw [this, Int.toNat_natCast, ← made_bool, Array.toArray_toList]
  have hmK : ∀ w, (Instr.makeSlice 39 (.int .i64 n) (.int .i64 n)).run Try.prog w = .ok (.slice (some ⟨w.heap.size, 0, none⟩) n n) (w.alloc (.cells (cellsU (List.replicate n 0)).toArray 32)) := fun w => by
    have := run_make (P := Try.prog) w 39 32 i32 (.int .u64 0) Try.underlying39 hi32 hz0 .i64 .i64 n n (by omega) (by omega) (by rw [hz2]; omega) (by omega)
    rw [hz1] at this
    rw [this, Int.toNat_natCast, ← made_u64, Array.toArray_toList]
  go_enter Try.func9, Try.ntmps9
  go_wp2_with fail
  go_region
  · go_wp2_with fail
    go_ret2
    obtain ⟨q0, q1, q2, q3⟩ := three_new w (.cells (cellsB (List.replicate n false)).toArray 4) (.cells (cellsU (List.replicate n 0)).toArray 32) (.cells #[.slice (some ⟨w.heap.size, 0, none⟩) n n, .slice (some ⟨w.heap.size + 1, 0, none⟩) n n] 59)
    exact ⟨w.heap.size + 1 + 1, _, rfl, ⟨w.heap.size, w.heap.size + 1, _, _, ⟨q2, q0, q1, by omega, by omega, by omega, by simp, by simp, hn⟩, rt_new n, rfl⟩, (by rintro k (rfl | rfl | rfl) <;> omega), q3.drew⟩
  · go_wp2_with fail
    go_ret2
    obtain ⟨q0, q1, q2, q3⟩ := three_new w (.cells (cellsU (List.replicate n 0)).toArray 32) (.cells (cellsB (List.replicate n false)).toArray 4) (.cells #[.slice (some ⟨w.heap.size + 1, 0, none⟩) n n, .slice (some ⟨w.heap.size, 0, none⟩) n n] 59)
    exact ⟨w.heap.size + 1 + 1, _, rfl, ⟨w.heap.size + 1, w.heap.size, _, _, ⟨q2, q1, q0, by omega, by omega, by omega, by simp, by simp, hn⟩, rt_new n, rfl⟩, (by rintro k (rfl | rfl | rfl) <;> omega), q3.drew⟩
end Go.Proofs.Ytbahlbdnibmjfaa
