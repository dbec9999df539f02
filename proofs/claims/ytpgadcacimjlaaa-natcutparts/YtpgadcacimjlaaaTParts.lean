/-
  Contracts of graph.leader, graph.join, graph.tidy and graph.Parts.
-/
import Derived.Test.YtpgadcacimjlaaaTLead
namespace Go.Proofs.Ytpgadcacimjlaaa.T3
open Go.RowKit
/-- Every block but one is as it was. -/
structure Rd (g : Nat) (w w' : World) : Prop where
  os : w'.os = w.os
  tape : w'.tape = w.tape
  output : w'.output = w.output
  size : w.heap.size ≤ w'.heap.size
  block : ∀ k, k < w.heap.size → k ≠ g → w'.heap[k]? = w.heap[k]?
theorem Rd.refl (g : Nat) (w : World) : Rd g w w := ⟨rfl, rfl, rfl, Nat.le_refl _, fun _ _ _ => rfl⟩
theorem Rd.trans {g : Nat} {a b c : World} (h : Rd g a b) (k : Rd g b c) : Rd g a c :=
  ⟨k.os.trans h.os, k.tape.trans h.tape, k.output.trans h.output, Nat.le_trans h.size k.size, fun i hi hn => (k.block i (Nat.lt_of_lt_of_le hi h.size) hn).trans (h.block i hi hn)⟩
theorem Rd.set {g : Nat} (w : World) (o : Nat) (u : Value) : Rd g w (w.setCell ⟨g, o, none⟩ u) := by
  have h := (Below.refl 0 w).setCell (p := ⟨g, o, none⟩) (Nat.zero_le _) u
  exact ⟨h.os, h.tape, h.output, h.size, fun k _ hn => Below.heap_setCell w _ u k hn⟩
theorem Rd.below {g B : Nat} {w0 w w' : World} (h : Rd g w w') (hb : Below B w0 w) (hg : B ≤ g) (hB : B ≤ w.heap.size) : Below B w0 w' :=
  hb.trans ⟨h.os, h.tape, h.output, h.size, fun k hk => h.block k (by omega) (by omega)⟩
/-- Leaders in memory: a row of our own. -/
def OwnL (w : World) (g n : Nat) (L : List Nat) : Prop := w.ownsRow g 3 1 (.slice (some ⟨g, 0, none⟩) n n) n (cellsI (ints L))
theorem OwnL.cell {w : World} {g n : Nat} {L : List Nat} (h : OwnL w g n L) (hl : L.length = n) (k : Nat) (hk : k < n) : w.cell? ⟨g, k, none⟩ = some (.int .i64 ((L.getD k 0 : Nat) : Int)) := by
  rw [World.ownsRow.cellAt h k (by omega), cellsI_getD _ k (by rw [ints_len]; omega), ints_getD]
theorem OwnL.set {w : World} {g n : Nat} {L : List Nat} (h : OwnL w g n L) (k x : Nat) : OwnL (w.setCell ⟨g, k, none⟩ (.int .i64 (x : Int))) g n (L.set k x) := by
  have := (World.ownsRow.stored h k (.int .i64 (x : Int))).1
  rw [cellsI_set, ints_set] at this
  exact this
theorem OwnL.free {w : World} {g n : Nat} {L : List Nat} (h : OwnL w g n L) (k : Nat) : w.frozen? ⟨g, k, none⟩ = false := World.ownsRow.frozenAt h k
set_option maxRecDepth 100000 in
set_option maxHeartbeats 800000 in
theorem leader_any (g n v : Nat) (L : List Nat) (R : Nat → Nat) (w : World) (hv : v < n) (hL : Lead n L R) (ho : OwnL w g n L) :
    Calls Try.prog 45 #[.slice (some ⟨g, 0, none⟩) n n, .int .i64 (v : Int)] w fun e w' => e = .returned (.int .i64 ((R v : Nat) : Int)) ∧ (∃ L', Lead n L' R ∧ OwnL w' g n L') ∧ Rd g w w' := by
  obtain ⟨r, HR⟩ := named (R v)
  rw [HR.out]
  go_enter Try.func45, Try.ntmps45
  go_wp2_with fail
  go_loopw [1] (fun i wr => ∃ (u : Nat) (M : List Nat), u < n ∧ i = .int .i64 (u : Int) ∧ Hid (R u = r) ∧ Hid (Lead n M R) ∧ OwnL wr g n M ∧ Rd g w wr) (fun i _ => (intOf i).toNat)
  case atStart => exact ⟨v, L, hv, rfl, HR, hL, ho, Rd.refl _ _⟩
  case round =>
    obtain ⟨u, M, hu, rfl, HU, HM, hown, hrd⟩ := hrel
    have cu := hown.cell HM.out.len u hu
    have fu := hown.free u
    by_cases hy : M.getD u 0 = u
    · rw [hy] at cu
      have hr := HM.out.top u hu hy
      rw [HU.out] at hr
      subst hr
      clear hy
      go_wp2_with fail
      go_ret
      exact ⟨rfl, ⟨M, HM.out, hown⟩, hrd⟩
    · obtain ⟨HL2, hz, HRz⟩ := HM.out.short hu hy
      have hyn : M.getD u 0 < n := by have := HM.out.le u hu; omega
      have cy := hown.cell HM.out.len _ hyn
      have hown2 := hown.set u (M.getD (M.getD u 0) 0)
      generalize M.getD (M.getD u 0) 0 = z at *
      generalize M.getD u 0 = y at *
      have hy' : ((y : Int) == (u : Int)) = false := beq_eq_false_iff_ne.2 (by omega)
      have HL2' := Lib.hid HL2
      have HRz' : Hid (R z = r) := HRz.trans HU.out
      clear HL2 HRz
      go_wp2_with fail
      exact ⟨⟨z, _, by omega, rfl, HRz', HL2', hown2, hrd.trans (Rd.set _ _ _)⟩, by simp [intOf]; omega⟩
theorem OwnL.lt {w : World} {g n : Nat} {L : List Nat} (h : OwnL w g n L) : g < w.heap.size := (World.ownsRow.lt h g rfl).2
set_option maxRecDepth 100000 in
set_option maxHeartbeats 800000 in
theorem join_any (g n a b : Nat) (L : List Nat) (R : Nat → Nat) (w : World) (ha : a < n) (hb : b < n) (hL : Lead n L R) (ho : OwnL w g n L) :
    Calls Try.prog 30 #[.slice (some ⟨g, 0, none⟩) n n, .int .i64 (a : Int), .int .i64 (b : Int)] w fun e w' => e = .returned (.tuple #[]) ∧ (∃ L', Lead n L' (mg R a b) ∧ OwnL w' g n L') ∧ Rd g w w' := by
  go_enter Try.func30, Try.ntmps30
  go_wp2_with fail
  refine (leader_any g n a L R w ha hL ho).mono ?_
  rintro e w1 ⟨rfl, ⟨L1, hL1, ho1⟩, hr1⟩
  go_wp2_with fail
  refine (leader_any g n b L1 R w1 hb hL1 ho1).mono ?_
  rintro e w2 ⟨rfl, ⟨L2, hL2, ho2⟩, hr2⟩
  have HL3 := Lib.hid (hL2.join ha hb)
  have hlt : max (R a) (R b) < n := by have := hL2.rle a; have := hL2.rle b; omega
  have ho3 := ho2.set (max (R a) (R b)) (min (R a) (R b))
  have cm := ho2.cell hL2.len _ hlt
  have fm := ho2.free (max (R a) (R b))
  clear hL hL1 hL2 ho ho1
  rcases Nat.lt_trichotomy (R a) (R b) with h | h | h
  · rw [Nat.max_eq_right (by omega), Nat.min_eq_left (by omega)] at *
    generalize R a = x at *
    generalize R b = y at *
    have h' : ¬ y < x := by omega
    go_wp2_with fail
    go_end0
    exact ⟨rfl, ⟨_, HL3.out, ho3⟩, (hr1.trans hr2).trans (Rd.set _ _ _)⟩
  · rw [show max (R a) (R b) = R b by omega, show min (R a) (R b) = R b by omega] at *
    rw [h]
    generalize R b = y at *
    clear h
    go_wp2_with fail
    go_end0
    exact ⟨rfl, ⟨_, HL3.out, ho3⟩, (hr1.trans hr2).trans (Rd.set _ _ _)⟩
  · rw [Nat.max_eq_left (by omega), Nat.min_eq_right (by omega)] at *
    generalize R a = x at *
    generalize R b = y at *
    have h' : ¬ x < y := by omega
    go_wp2_with fail
    go_end0
    exact ⟨rfl, ⟨_, HL3.out, ho3⟩, (hr1.trans hr2).trans (Rd.set _ _ _)⟩
theorem below_of {B : Nat} {w w' : World} (hB : B ≤ w.heap.size) (h : Below w.heap.size w w') : Below B w w' := h.mono hB
set_option maxRecDepth 100000 in
set_option maxHeartbeats 800000 in
theorem tidy_any (g n : Nat) (L : List Nat) (R : Nat → Nat) (w : World) (hn : n ≤ 1024) (hL : Lead n L R) (ho : OwnL w g n L) :
    Calls Try.prog 31 #[.slice (some ⟨g, 0, none⟩) n n] w fun e w' => e = .returned (.slice (some ⟨w.heap.size, 0, none⟩) n n) ∧ OwnL w' w.heap.size n (labs R n) ∧ Below w.heap.size w w' := by
  obtain ⟨i0, hi, hz0, hz1, hz2⟩ := info_parts info3
  have hg := ho.lt
  have HL := Lib.hid hL
  clear hL
  go_enter Try.func31, Try.ntmps31
  go_wp2_with (at_make; refine wpList_make_full _ rfl (.tmp 8) (.tmp 8) 31 rfl w.heap.size 3 i0 (.int .i64 0) 1 Try.underlying31 hi hz0 hz1 .i64 .i64 n n n rfl rfl rfl rfl (by rw [hz2]; omega) (by unfold maxLen; omega) (Nat.le_refl _) ?_; intro w1 hown1 hgrow1)
  have hown0 : OwnL w1 w.heap.size n (List.replicate n 0) := by
    have e : (madeCells (Value.int .i64 0).cells (n * 1)).toList = cellsI (ints (List.replicate n 0)) := by
      show (madeCells #[Value.int .i64 0] (n * 1)).toList = _
      rw [toList_madeCells_one, Nat.mul_one]
      unfold cellsI ints
      simp
    rw [e] at hown1
    exact hown1
  have hb1 : Below w.heap.size w w1 := (Below.refl _ _).grown hgrow1 (Nat.le_refl _) (by intro k hk; cases hk)
  clear hown1 hgrow1
  go_loopw [4, 12] (fun t i wr => ∃ (k : Nat) (X : List Nat), k ≤ n ∧ i = .int .i64 (k : Int) ∧ t = .int .i64 ((cnt R k : Nat) : Int) ∧ Hid (X.length = n) ∧ Hid (∀ j, j < k → X.getD j 0 = lab R j) ∧ OwnL wr w.heap.size n X ∧ Below w.heap.size w wr) (fun _ i _ => n - (intOf i).toNat)
  case atStart => exact ⟨0, List.replicate n 0, Nat.zero_le _, rfl, rfl, by show _ = _; simp, by intro j hj; omega, hown0, hb1⟩
  case round =>
    obtain ⟨k, X, hk, rfl, rfl, HX, HJ, hown, hbel⟩ := hrel
    by_cases hlt : k < n
    · have hck := cnt_le R k
      have cg : wr.cell? ⟨g, k, none⟩ = some (.int .i64 ((L.getD k 0 : Nat) : Int)) := (hbel.cell hg).trans (ho.cell HL.out.len k hlt)
      have cx := hown.cell HX.out k hlt
      have fx := hown.free k
      have hXl : k < X.length := by rw [HX.out]; exact hlt
      obtain ⟨s1, s2⟩ := HL.out.step hlt
      by_cases hy : L.getD k 0 = k
      · obtain ⟨e1, e2⟩ := s1 hy
        rw [hy] at cg
        have hst := hown.set k (cnt R k)
        have HE2 : Hid (cnt R (k + 1) = cnt R k + 1) := e2
        have HN : Hid (∀ j, j < k + 1 → (X.set k (cnt R k)).getD j 0 = lab R j) := by
          show ∀ j, _
          intro j hj
          rw [getD_set _ _ _ _ hXl]
          split
          · rename_i e; rw [e, e1]
          · exact HJ.out j (by omega)
        clear hy s1 s2 e1 e2
        generalize cnt R k = c at *
        generalize X.getD k 0 = x0 at *
        go_wp2_with fail
        exact ⟨⟨k + 1, _, by omega, by go_num, by rw [HE2.out]; go_num, by show _ = _; rw [List.length_set]; exact HX.out, HN, hst, hbel.setCell (Nat.le_refl _) _⟩, by simp [intOf]; omega⟩
      · obtain ⟨hyk, e1, e2⟩ := s2 hy
        have cy := hown.cell HX.out _ (show L.getD k 0 < n by omega)
        rw [HJ.out _ hyk] at cy
        have hst := hown.set k (lab R (L.getD k 0))
        have HE2 : Hid (cnt R (k + 1) = cnt R k) := e2
        have HN : Hid (∀ j, j < k + 1 → (X.set k (lab R (L.getD k 0))).getD j 0 = lab R j) := by
          show ∀ j, _
          intro j hj
          rw [getD_set _ _ _ _ hXl]
          split
          · rename_i e; rw [e, e1]
          · exact HJ.out j (by omega)
        have hy' : (((L.getD k 0 : Nat) : Int) == (k : Int)) = false := beq_eq_false_iff_ne.2 (by omega)
        clear hy s1 s2 e1 e2
        generalize lab R (L.getD k 0) = z at *
        generalize L.getD k 0 = y at *
        generalize X.getD k 0 = x0 at *
        generalize cnt R k = c at *
        go_wp2_with fail
        exact ⟨⟨k + 1, _, by omega, by go_num, by rw [HE2.out], by show _ = _; rw [List.length_set]; exact HX.out, HN, hst, hbel.setCell (Nat.le_refl _) _⟩, by simp [intOf]; omega⟩
    · have hX : X = labs R n := labs_ext HX.out (fun j hj => HJ.out j (by omega))
      rw [hX] at hown
      clear hX
      go_wp2_with fail
      go_ret
      exact ⟨rfl, hown, hbel⟩
end Go.Proofs.Ytpgadcacimjlaaa.T3
