/-
  The reader in memory; contract of its method number: a number's groups, and where they end, or what is wrong with them.
-/
import Derived.Test.YtchmiiclogmheaaDoorCSh
import Derived.Test.YtchmiiclogmheaaDoorCUnframe
import Derived.WalkMore
namespace Go.Proofs.YtchmiiclogmheaaDoor.C2
open Go.RowKit
/-- A reader of s lies in block rb, having read k bytes. -/
structure RS (w : World) (rb : Nat) (s : ByteArray) (k : Nat) : Prop where
  lt : rb < w.heap.size
  c0 : w.cell? ⟨rb, 0, none⟩ = some (.string s)
  c1 : w.cell? ⟨rb, 1, none⟩ = some (.int .i64 k)
  f1 : w.frozen? ⟨rb, 1, none⟩ = false
/-- Every block but the reader's is as it was. -/
structure Rd (rb : Nat) (w w' : World) : Prop where
  os : w'.os = w.os
  tape : w'.tape = w.tape
  output : w'.output = w.output
  size : w.heap.size ≤ w'.heap.size
  block : ∀ k, k < w.heap.size → k ≠ rb → w'.heap[k]? = w.heap[k]?
set_option maxRecDepth 100000 in
theorem Rd.refl (rb : Nat) (w : World) : Rd rb w w := ⟨rfl, rfl, rfl, Nat.le_refl _, fun _ _ _ => rfl⟩
theorem Rd.trans {rb : Nat} {a b c : World} (h : Rd rb a b) (k : Rd rb b c) : Rd rb a c :=
  ⟨k.os.trans h.os, k.tape.trans h.tape, k.output.trans h.output, Nat.le_trans h.size k.size, fun i hi hn => (k.block i (Nat.lt_of_lt_of_le hi h.size) hn).trans (h.block i hi hn)⟩
set_option maxRecDepth 100000 in
theorem Rd.trans' {rb : Nat} {a b c : World} (h : Rd rb a b) (k : c.os = b.os ∧ c.tape = b.tape ∧ c.output = b.output ∧ b.heap.size ≤ c.heap.size ∧ ∀ i, i < a.heap.size → c.heap[i]? = b.heap[i]?) : Rd rb a c :=
  ⟨k.1.trans h.os, k.2.1.trans h.tape, k.2.2.1.trans h.output, Nat.le_trans h.size k.2.2.2.1, fun i hi hn => (k.2.2.2.2 i hi).trans (h.block i hi hn)⟩
theorem Rd.of {rb : Nat} {w w' : World} (h : Below w.heap.size w w') : Rd rb w w' := ⟨h.os, h.tape, h.output, h.size, fun k hk _ => h.block k hk⟩
set_option maxRecDepth 100000 in
theorem Rd.set {rb : Nat} (w : World) (o : Nat) (u : Value) : Rd rb w (w.setCell ⟨rb, o, none⟩ u) := by
  have h := (Below.refl 0 w).setCell (p := ⟨rb, o, none⟩) (Nat.zero_le _) u
  exact ⟨h.os, h.tape, h.output, h.size, fun k _ hn => Below.heap_setCell w _ u k hn⟩
set_option maxRecDepth 100000 in
theorem Rd.drewN (rb : Nat) (w : World) (n : Nat) : Rd rb w (w.drewN n) := Rd.of (below_drewN _ _ _)
theorem RS.on {w w' : World} {rb k : Nat} {s : ByteArray} (h : RS w rb s k) (hb : Below w.heap.size w w') : RS w' rb s k :=
  ⟨Nat.lt_of_lt_of_le h.lt hb.size, (hb.cell (p := ⟨rb, 0, none⟩) h.lt).trans h.c0, (hb.cell (p := ⟨rb, 1, none⟩) h.lt).trans h.c1, (hb.frozen (p := ⟨rb, 1, none⟩) h.lt).trans h.f1⟩
set_option maxRecDepth 100000 in
theorem RS.set {w : World} {rb k : Nat} {s : ByteArray} (h : RS w rb s k) (m : Nat) : RS (w.setCell ⟨rb, 1, none⟩ (.int .i64 m)) rb s m := by
  have h1 := h.c1
  have h0 := h.c0
  have hf := h.f1
  refine ⟨?_, ?_, ?_, ?_⟩
  · have := (Rd.set (rb := rb) w 1 (.int .i64 m)).size; exact Nat.lt_of_lt_of_le h.lt this
  · rw [World.cell?_setCell_other _ _ _ _ (by intro e; cases e)]; exact h0
  · exact World.cell?_setCell_same _ _ _ h1
  · rw [World.frozen?_setCell]; exact hf
set_option maxRecDepth 100000 in
theorem RS.setOther {w : World} {rb k : Nat} {s : ByteArray} (h : RS w rb s k) {a : Addr} (ha : a.block ≠ rb) (u : Value) : RS (w.setCell a u) rb s k := by
  have hb := Below.heap_setCell w a u rb (fun e => ha e.symm)
  exact ⟨by have := ((Below.refl 0 w).setCell (p := a) (Nat.zero_le _) u).size; exact Nat.lt_of_lt_of_le h.lt this, (World.cell?_of_block (w := w) (a := ⟨rb, 0, none⟩) hb).trans h.c0, (World.cell?_of_block (w := w) (a := ⟨rb, 1, none⟩) hb).trans h.c1, (World.frozen?_of_block (w := w) (a := ⟨rb, 1, none⟩) hb).trans h.f1⟩
set_option maxRecDepth 100000 in
theorem Rd.setNew {rb : Nat} {w w' : World} (h : Rd rb w w') {a : Addr} (ha : w.heap.size ≤ a.block) (u : Value) : Rd rb w (w'.setCell a u) := by
  have hb := (Below.refl 0 w').setCell (p := a) (Nat.zero_le _) u
  exact h.trans' ⟨hb.os, hb.tape, hb.output, hb.size, fun k hk => Below.heap_setCell w' a u k (by omega)⟩
/-- Where the reader stands. -/
def atOf (w : World) (rb : Nat) : Nat := match w.cell? ⟨rb, 1, none⟩ with | some v => (intOf v).toNat | none => 0
set_option maxRecDepth 100000 in
theorem RS.atOf {w : World} {rb k : Nat} {s : ByteArray} (h : RS w rb s k) : atOf w rb = k := by
  unfold Go.Proofs.YtchmiiclogmheaaDoor.C2.atOf
  rw [h.c1]
  simp [intOf]
set_option maxRecDepth 100000 in
theorem two_cells {w : World} {g : Nat} {a b : Value} {t : TypeId} (h : w.heap[g]? = some (.cells #[a, b] t)) : (w.cell? ⟨g, 0, none⟩ = some a ∧ w.cell? ⟨g, 1, none⟩ = some b) ∧ (w.frozen? ⟨g, 0, none⟩ = false ∧ w.frozen? ⟨g, 1, none⟩ = false) := by
  simp [World.cell?, World.frozen?, h]
theorem bcell' {w w1 : World} {g : Nat} (hb : Below w.heap.size w w1) (hg : g < w.heap.size) : (w1.cell? ⟨g, 0, none⟩ = w.cell? ⟨g, 0, none⟩ ∧ w1.cell? ⟨g, 1, none⟩ = w.cell? ⟨g, 1, none⟩) ∧ (w1.frozen? ⟨g, 0, none⟩ = w.frozen? ⟨g, 0, none⟩ ∧ w1.frozen? ⟨g, 1, none⟩ = w.frozen? ⟨g, 1, none⟩) :=
  ⟨⟨hb.cell (p := ⟨g, 0, none⟩) hg, hb.cell (p := ⟨g, 1, none⟩) hg⟩, hb.frozen (p := ⟨g, 0, none⟩) hg, hb.frozen (p := ⟨g, 1, none⟩) hg⟩
/-- The number that groups say, the first so many of them, as 64 bits. -/
def orV (g : List UInt8) : Nat → Nat
  | 0 => 0
  | i + 1 => orV g i ||| ((g.getD i 0).toNat % 128 * 2 ^ (7 * i) % 18446744073709551616)
set_option maxRecDepth 100000 in
theorem orV_lt (g : List UInt8) (i : Nat) : orV g i < 18446744073709551616 := by
  induction i with
  | zero => show 0 < _; decide
  | succ i ih => exact Nat.or_lt_two_pow (n := 64) ih (Nat.mod_lt _ (by decide))
/-- What number answers of groups that begin at k. -/
def numV (g : List UInt8) (k : Nat) : Value :=
  if numD (orV g g.length) = g then .tuple #[.int .u64 (orV g g.length : Nat), .agg #[.int .i64 0, .int .i64 0]] else .tuple #[.int .u64 0, .agg #[.int .i64 k, .int .i64 22]]
/-- What number answers, and where it leaves the reader. -/
def NumPost (s : ByteArray) (rb k : Nat) (w : World) (e : Ending) (w' : World) : Prop :=
  Rd rb w w' ∧ ((Hid (∀ i, (h : i < s.size) → k ≤ i → 128 ≤ s[i].toNat) ∧ e = .returned (.tuple #[.int .u64 0, .agg #[.int .i64 k, .int .i64 23]]) ∧ RS w' rb s s.size)
    ∨ ∃ j, k ≤ j ∧ ∃ h : j < s.size, Hid (∀ i, (h : i < s.size) → k ≤ i → i < j → 128 ≤ s[i].toNat) ∧ s[j].toNat < 128 ∧ e = .returned (numV ((s.data.toList.drop k).take (j + 1 - k)) k) ∧ RS w' rb s (j + 1))
set_option maxHeartbeats 1000000 in
set_option maxRecDepth 100000 in
theorem number_any (s : ByteArray) (hs : s.size ≤ 262144) (rb k : Nat) (hk : k ≤ s.size) (w : World) (hr : RS w rb s k) :
    Calls Tryd.prog 75 #[.pointer (some ⟨rb, 0, none⟩)] w fun e w' => NumPost s rb k w e w' := by
  have hr1 := hr.on ((Below.refl w.heap.size w).alloc (Nat.le_refl _) (.cells #[.int .i64 0, .int .i64 0] 35))
  have HR1 := Lib.hid hr1
  have hrw : Rd rb w (w.alloc (.cells #[.int .i64 0, .int .i64 0] 35)) := Rd.of ((Below.refl w.heap.size w).alloc (Nat.le_refl _) _)
  obtain ⟨hlt, c0, c1, f1⟩ := hr
  clear hr1
  go_enter Tryd.func75, Tryd.ntmps75
  go_wp2_with fail
  go_step3
  go_wp2_with fail
  go_step3
  go_wp2_with fail
  go_loopw [12] (fun _ wr => ∃ j, k ≤ j ∧ j ≤ s.size ∧ RS wr rb s j ∧ Rd rb (w.alloc (.cells #[.int .i64 0, .int .i64 0] 35)) wr ∧ Hid (∀ i, (h : i < s.size) → k ≤ i → i < j → 128 ≤ s[i].toNat)) (fun _ wr => s.size - atOf wr rb)
  case atStart => exact ⟨k, Nat.le_refl _, hk, HR1.out, Rd.refl _ _, by show ∀ i, _; intro i h h1 h2; omega⟩
  case round =>
    obtain ⟨j, hj1, hj2, hrs, hrd, HALL⟩ := hrel
    have HRS := Lib.hid hrs
    obtain ⟨rlt, r0, r1, rf⟩ := hrs
    clear c0 c1 f1 HR1
    have hsz : w.heap.size + 1 ≤ wr.heap.size := by have := hrd.size; simp at this; omega
    have hres : wr.heap[w.heap.size]? = some (.cells #[.int .i64 0, .int .i64 0] 35) := (hrd.block _ (by simp) (by omega)).trans (heap_top w _)
    by_cases he : j = s.size
    · have he' : ((j : Int) == (s.size : Int)) = true := by rw [beq_iff_eq]; omega
      go_wp2_with fail
      go_quiet (fail)
      go_wp2_with fail
      refine (fault_any k 23 _).mono ?_
      rintro e w2 ⟨rfl, hb2⟩
      obtain ⟨hc, hf⟩ := two_cells ((hb2.block w.heap.size (by simp; omega)).trans hres)
      have hz : w.heap.size + 1 ≤ w2.heap.size := by have := hb2.size; simp at this; omega
      have hrd2 : Rd rb w w2 := hrw.trans (hrd.trans ((Rd.drewN rb wr _).trans (Rd.of hb2)))
      have hrs2 : RS w2 rb s j := (HRS.out.on (below_drewN _ _ _)).on hb2
      clear hb2
      go_wp2_with fail
      try rw [Exit.noGoto_ret]
      refine bodyPost_ret (v := .tuple #[.int .u64 0, .agg #[.int .i64 k, .int .i64 23]]) (by simp [results, Tryd.results75, go_sem, hc]) rfl ⟨(hrd2.setNew (a := ⟨w.heap.size, 0, none⟩) (Nat.le_refl _) _).setNew (a := ⟨w.heap.size, 1, none⟩) (Nat.le_refl _) _, Or.inl ⟨?_, rfl, ?_⟩⟩
      · show ∀ i, _
        intro i h h1
        exact HALL.out i h h1 (by omega)
      · have h9 := (hrs2.setOther (a := ⟨w.heap.size, 0, none⟩) (by simp; omega) (.int .i64 k)).setOther (a := ⟨w.heap.size, 1, none⟩) (by simp; omega) (.int .i64 23)
        rw [he] at h9
        exact h9
    · have he' : ((j : Int) == (s.size : Int)) = false := beq_eq_false_iff_ne.2 (by omega)
      have hjs : j < s.size := by omega
      by_cases hc : s[j].toNat < 128
      · have hc' : (s[j].toNat : Int) < 128 := by omega
        have hk1 : (k : Int) ≤ (j : Int) + 1 := by omega
        have hk2 : (j : Int) + 1 ≤ s.size := by omega
        have hk3 : (0 : Int) ≤ (j : Int) + 1 := by omega
        go_wp2_with fail
        go_quiet (fail)
        go_wp2_with fail
        go_quiet (fail)
        go_wp2_with fail
        go_quiet (fail)
        go_wp2_with fail
        have HRSN := fun n m => (((HRS.out.on (below_drewN wr.heap.size wr n)).set (j + 1)).on (below_drewN _ _ m))
        have HRDN : ∀ n m, Rd rb w (((wr.drewN n).setCell ⟨rb, 1, none⟩ (.int .i64 ((j : Int) + 1))).drewN m) := fun n m => hrw.trans (hrd.trans ((Rd.drewN rb wr n).trans ((Rd.set _ _ _).trans (Rd.drewN rb _ m))))
        have hres2 : ∀ n m, (((wr.drewN n).setCell ⟨rb, 1, none⟩ (.int .i64 ((j : Int) + 1))).drewN m).heap[w.heap.size]? = some (.cells #[.int .i64 0, .int .i64 0] 35) := fun n m => (((Rd.set (rb := rb) (wr.drewN n) 1 (.int .i64 ((j : Int) + 1))).trans (Rd.drewN rb _ m)).block w.heap.size (by simp; omega) (by omega)).trans hres
        generalize hW : World.drewN _ nq = W7
        have HRS7 : Hid (RS W7 rb s (j + 1)) := by rw [← hW]; exact HRSN _ _
        have hrd7 : Rd rb w W7 := by rw [← hW]; exact HRDN _ _
        have HRES7 : Hid (W7.heap[w.heap.size]? = some (.cells #[.int .i64 0, .int .i64 0] 35)) := by rw [← hW]; exact hres2 _ _
        clear hW HRSN HRDN hres2 r0 r1 rf hres
        have hg : (s.extract k (j + 1)).size ≤ 262144 := by rw [extract_size]; omega
        have hgl : (s.extract k (j + 1)).data.toList = (s.data.toList.drop k).take (j + 1 - k) := extract_list _ _ _
        rw [show min (j + 1) s.size - k = (s.extract k (j + 1)).size from (extract_size _ _ _).symm]
        obtain ⟨g, HG⟩ := named (s.extract k (j + 1))
        rw [HG.out] at hg hgl ⊢
        have HGL := Lib.hid hgl
        clear hgl
        go_loop [6, 62] (fun x i => ∃ q : Nat, q ≤ g.size ∧ i = .int .i64 q ∧ x = .int .u64 (orV g.data.toList q : Nat)) (fun _ i => g.size - (intOf i).toNat)
        case atStart => exact ⟨0, Nat.zero_le _, rfl, rfl⟩
        case round =>
          obtain ⟨q, hq, rfl, rfl⟩ := hrel
          by_cases hlq : q < g.size
          · have hV := orV_lt g.data.toList q
            have HV : Hid (orV g.data.toList (q + 1) = orV g.data.toList q ||| (g[q].toNat % 128 * 2 ^ (7 * q) % 18446744073709551616)) := by
              show _ = _
              rw [← getD_at g q hlq]; rfl
            have hsh : Op.shift .shl .u64 ((g[q].toNat : Int) % 128) .i64 (7 * (q : Int)) = pure (.int .u64 ((g[q].toNat % 128 * 2 ^ (7 * q) % 18446744073709551616 : Nat) : Int)) := shl_any _ _
            have hY : g[q].toNat % 128 * 2 ^ (7 * q) % 18446744073709551616 < 18446744073709551616 := Nat.mod_lt _ (by decide)
            generalize g[q].toNat % 128 * 2 ^ (7 * q) % 18446744073709551616 = Y at *
            generalize orV g.data.toList q = V at *
            have hor := u64_or_nat V Y hV hY
            go_wp2_with fail
            exact ⟨⟨q + 1, by omega, by go_num, by rw [HV.out]⟩, by simp [intOf]; omega⟩
          · have hqe : q = g.size := by omega
            have hV := orV_lt g.data.toList q
            obtain ⟨V, HV⟩ := named (orV g.data.toList q)
            rw [HV.out] at hV ⊢
            have HV2 : Hid (orV g.data.toList g.data.toList.length = V) := by
              show _ = _
              rw [← HV.out, hqe]; simp
            clear hqe
            go_wp2_with fail
            refine (anum W7.heap.size (.slice none 0 0) [] V hV W7 (OwnB.nil _ _) (Nat.le_refl _) (by simp)).mono ?_
            rintro e w8 ⟨v8, rfl, hown8, hfr8⟩
            have hcv := conv_own hown8
            clear hown8
            have hb8 := hfr8.below
            have hres8 := (hb8.block w.heap.size (by have := hrd7.size; have := HRES7.out; exact lt_of_block this)).trans HRES7.out
            obtain ⟨m, HM⟩ := named (⟨([] ++ numD V).toArray⟩ : ByteArray)
            rw [HM.out] at hcv
            obtain ⟨hc, hf⟩ := two_cells hres8
            have hlt8 : w.heap.size < w8.heap.size := lt_of_block hres8
            have hrd8 : Rd rb w w8 := hrd7.trans (Rd.of hb8)
            have HRS8 : Hid (RS w8 rb s (j + 1)) := HRS7.out.on hb8
            clear hb8 hfr8 hres8
            by_cases hEq : numD V = g.data.toList
            · have hbq : (m.toList == g.toList) = true := by
                rw [← HM.out, beq_iff_eq, ByteArray.toList_eq, ByteArray.toList_eq]; simpa using hEq
              have HNV : Hid (numV ((s.data.toList.drop k).take (j + 1 - k)) k = .tuple #[.int .u64 (V : Int), .agg #[.int .i64 0, .int .i64 0]]) := by
                show _ = _
                rw [← HGL.out]
                unfold numV
                rw [HV2.out, if_pos hEq]
              go_wp2_with fail
              try rw [Exit.noGoto_ret]
              refine bodyPost_ret (v := .tuple #[.int .u64 (V : Int), .agg #[.int .i64 0, .int .i64 0]]) (by simp [results, Tryd.results75, go_sem, hc]) rfl ⟨(hrd8.setNew (a := ⟨w.heap.size, 0, none⟩) (Nat.le_refl _) _).setNew (a := ⟨w.heap.size, 1, none⟩) (Nat.le_refl _) _, Or.inr ⟨j, hj1, hjs, HALL, by omega, by rw [HNV.out], ?_⟩⟩
              exact (HRS8.out.setOther (a := ⟨w.heap.size, 0, none⟩) (by simp; omega) (.int .i64 0)).setOther (a := ⟨w.heap.size, 1, none⟩) (by simp; omega) (.int .i64 0)
            · have hbq : (m.toList == g.toList) = false := by
                rw [← HM.out, beq_eq_false_iff_ne, ByteArray.toList_eq, ByteArray.toList_eq]; simpa using hEq
              have HNV : Hid (numV ((s.data.toList.drop k).take (j + 1 - k)) k = .tuple #[.int .u64 0, .agg #[.int .i64 k, .int .i64 22]]) := by
                show _ = _
                rw [← HGL.out]
                unfold numV
                rw [HV2.out, if_neg hEq]
              go_wp2_with fail
              refine (fault_any k 22 _).mono ?_
              rintro e w9 ⟨rfl, hb9⟩
              obtain ⟨hc9, hf9⟩ := bcell' hb9 hlt8
              have hrd9 : Rd rb w w9 := hrd8.trans (Rd.of hb9)
              have HRS9 : Hid (RS w9 rb s (j + 1)) := HRS8.out.on hb9
              have hlt9 := Nat.lt_of_lt_of_le hlt8 hb9.size
              rw [hc.1, hc.2] at hc9
              rw [hf.1, hf.2] at hf9
              clear hc hf hb9
              go_wp2_with fail
              try rw [Exit.noGoto_ret]
              refine bodyPost_ret (v := .tuple #[.int .u64 0, .agg #[.int .i64 k, .int .i64 22]]) (by simp [results, Tryd.results75, go_sem, hc9]) rfl ⟨(hrd9.setNew (a := ⟨w.heap.size, 0, none⟩) (Nat.le_refl _) _).setNew (a := ⟨w.heap.size, 1, none⟩) (Nat.le_refl _) _, Or.inr ⟨j, hj1, hjs, HALL, by omega, by rw [HNV.out], ?_⟩⟩
              exact (HRS9.out.setOther (a := ⟨w.heap.size, 0, none⟩) (by simp; omega) (.int .i64 k)).setOther (a := ⟨w.heap.size, 1, none⟩) (by simp; omega) (.int .i64 22)
      · have hc' : ¬ (s[j].toNat : Int) < 128 := by omega
        have hmeas : s.size - (j + 1) < s.size - atOf wr rb := by rw [HRS.out.atOf]; omega
        go_wp2_with fail
        go_quiet (fail)
        go_wp2_with fail
        go_quiet (fail)
        go_wp2_with fail
        have h9 := fun n => (HRS.out.on (below_drewN wr.heap.size wr n)).set (j + 1)
        refine ⟨⟨j + 1, by omega, by omega, h9 _, hrd.trans ((Rd.drewN rb wr _).trans (Rd.set _ _ _)), ?_⟩, ?_⟩
        · show ∀ i, _
          intro i h h1 h2
          by_cases e : i = j
          · subst e; omega
          · exact HALL.out i h h1 (by omega)
        · exact (congrArg (fun x => s.size - x < _) (h9 _).atOf).mpr hmeas
end Go.Proofs.YtchmiiclogmheaaDoor.C2
