/-
  Contract of slices.Insert of one timer.
-/
import Derived.Test.YtfhlfklgngpklaaTms
import Derived.Shelf.RegionOpenPlain
import Derived.Lib.Walk
import Derived.Lib.SliceRun
import Derived.Lib.AppendZerosOnto
import Derived.Lib.Overlaps
import Derived.Laws.Externs
import Derived.Laws.IdiomCopy
import Derived.Laws.CopyRow
import Derived.Laws.NewBlocks
import Derived.Shelf.Spec.SlicesInsert
namespace Go.Proofs.Ytfhlfklgngpklaa
open Go.RowKit Go.Maps
theorem info53 : ∃ i, Try.prog.info? 53 = some i ∧ i.zero = some (.agg #[.int .i64 0, .int .i64 0, .int .i64 0]) ∧ i.size = 3 ∧ i.bytes = 24 := by
  have h : (Try.prog.info? 53).map (fun i => (i.zero, i.size, i.bytes)) = some (some (.agg #[.int .i64 0, .int .i64 0, .int .i64 0]), 3, 24) := by kernel_rfl
  cases hi : Try.prog.info? 53 with
  | none => rw [hi] at h; cases h
  | some i => rw [hi] at h; simp at h; exact ⟨i, rfl, h.1, h.2.1, h.2.2⟩
theorem tmC_one : ∀ (l : List Tm), ∀ u ∈ tmC l, u.oneCell' = true
  | [], u, h => by simp [tmC] at h
  | t :: r, u, h => by
    simp only [tmC, List.mem_cons] at h
    rcases h with rfl | rfl | rfl | h
    · rfl
    · rfl
    · rfl
    · exact tmC_one r u h
/-- copy of timers into a row: all is read before anything is written. -/
theorem run_copy3 (w : World) (g o dLen dCap : Nat) (a : Addr) (sLen sCap m : Nat) (cur : Array Value) (cs : List Value)
    (hg : w.heap[g]? = some (.cells cur 53 (0, 0))) (hm : Nat.min sLen dLen = m) (hn : cs.length = m * 3)
    (hsrc : ∀ j v, cs[j]? = some v → w.cell? (a.add j) = some v) (hfit : o + cs.length ≤ cur.size) (h1 : ∀ v ∈ cs, v.oneCell' = true) (ty : TypeId) :
    (Builtin.copy_ #[48, 48] ty #[.slice (some ⟨g, o, none⟩) dLen dCap, .slice (some a) sLen sCap]).run Try.prog w =
      .ok (goInt m) (w.setRow g (cur.toList.take o ++ cs ++ cur.toList.drop (o + cs.length)).toArray) := by
  obtain ⟨i, hq, _, hi, _⟩ := info53
  have hl := run_loadCells_list (P := Try.prog) w a cs hsrc
  have hst := run_storeCells_at Try.prog g o 53 cs 0 cur w hg (by simpa using hfit) h1
  rw [hn] at hl
  simp [Builtin.copy_, run_underlying Try.underlying48, Builtin.lenOf, Builtin.firstCells, sizeOf, typeInfo, hq, hi, hm, hl, hst]
theorem tmC_take : ∀ (l : List Tm) (i : Nat), (tmC l).take (i * 3) = tmC (l.take i)
  | [], i => by simp [tmC]
  | t :: r, 0 => by simp [tmC]
  | t :: r, i + 1 => by
    rw [show (i + 1) * 3 = i * 3 + 1 + 1 + 1 by omega]
    simp only [tmC, List.take_succ_cons, tmC_take r i]
theorem tmC_drop : ∀ (l : List Tm) (i : Nat), (tmC l).drop (i * 3) = tmC (l.drop i)
  | [], i => by simp [tmC]
  | t :: r, 0 => by simp [tmC]
  | t :: r, i + 1 => by
    rw [show (i + 1) * 3 = i * 3 + 1 + 1 + 1 by omega]
    simp only [tmC, List.drop_succ_cons, tmC_drop r i]
theorem tm_form {w : World} {n : Nat} {v : Value} {xs : List Value} (h : w.ownsRow 0 53 3 v n xs) : (v = .slice none 0 0 ∧ n = 0) ∨ ∃ g c cur, v = .slice (some ⟨g, 0, none⟩) n c ∧ n ≤ c ∧ c ≤ maxLen ∧ w.heap[g]? = some (.cells cur 53 (0, 0)) ∧ cur.size = c * 3 ∧ cur.toList = xs ++ cur.toList.drop (n * 3) := by
  rcases h.2 with h2 | ⟨g, cap, cur, e1, e2, e3, e4, e5, e6, e7⟩
  · exact Or.inl h2
  · refine Or.inr ⟨g, cap, cur, e1, e4, e5, e3, e6, ?_⟩
    rw [← e7]
    exact (List.take_append_drop _ _).symm
/-- The lists of the in-place road. -/
theorem shift_list {A B R T : List Value} {a b : Nat} (hA : A.length = a) (hB : B.length = b) (hR : 3 ≤ R.length) :
    let C := A ++ B ++ R
    let C1 := C.take (a + 3) ++ B ++ C.drop (a + 3 + b)
    C1.take a ++ T ++ C1.drop (a + 3) = A ++ T ++ B ++ R.drop 3 := by
  intro C C1
  have h1 : C.take (a + 3) = A ++ (B ++ R).take 3 := by
    show (A ++ B ++ R).take (a + 3) = _
    rw [List.append_assoc, List.take_append, hA, List.take_of_length_le (by omega), Nat.add_sub_cancel_left]
  have h2 : C.drop (a + 3 + b) = R.drop 3 := by
    show (A ++ B ++ R).drop (a + 3 + b) = _
    rw [List.drop_append, List.length_append, hA, hB, List.drop_of_length_le (by rw [List.length_append]; omega), List.nil_append]
    congr 1
    omega
  have hX : ((B ++ R).take 3).length = 3 := by rw [List.length_take, List.length_append]; omega
  have h3 : C1 = A ++ ((B ++ R).take 3 ++ (B ++ R.drop 3)) := by
    show C.take (a + 3) ++ B ++ C.drop (a + 3 + b) = _
    rw [h1, h2]
    simp only [List.append_assoc]
  have h4 : C1.take a = A := by rw [h3, List.take_append, hA, Nat.sub_self, List.take_of_length_le (by omega), List.take_zero, List.append_nil]
  have h5 : C1.drop (a + 3) = B ++ R.drop 3 := by
    rw [h3, List.drop_append, hA, List.drop_of_length_le (by omega), List.nil_append, Nat.add_sub_cancel_left, List.drop_append, hX, List.drop_of_length_le (by omega), List.nil_append, Nat.sub_self, List.drop_zero]
  rw [h4, h5]
  simp only [List.append_assoc]
def tmV (t : Tm) : List Value := [.int .i64 t.nd, .int .i64 t.at_, .int .i64 t.tg]
theorem tmC_ins (l : List Tm) (i : Nat) (t : Tm) : tmC (l.take i ++ t :: l.drop i) = tmC (l.take i) ++ tmV t ++ tmC (l.drop i) := by
  rw [tmC_append]
  show tmC (l.take i) ++ (tmV t ++ tmC (l.drop i)) = _
  rw [List.append_assoc]
theorem tmV_one (t : Tm) : ∀ u ∈ tmV t, u.oneCell' = true := by
  intro u hu
  simp only [tmV, List.mem_cons, List.mem_nil_iff, or_false] at hu
  rcases hu with rfl | rfl | rfl <;> rfl
theorem tmV_at {w : World} {vb : Nat} {t : Tm} (h : w.heap[vb]? = some (.cells (tmV t).toArray 53 (0, 0))) : ∀ j u, (tmV t)[j]? = some u → w.cell? ((⟨vb, 0, none⟩ : Addr).add j) = some u := by
  intro j u hu
  rw [Go.WideShapes.add_plain, Nat.zero_add, cell_of_row w vb j _ 53 (0, 0) h, List.getElem?_toArray]
  exact hu
def Kept (w w' : World) (v v' : Value) (l : List Tm) : Prop := w'.ownsRow 0 53 3 v' l.length (tmC l) ∧ (v'.ownBlock = v.ownBlock ∨ v'.ownBlock = some w.heap.size) ∧ Fr (fun j => v.ownBlock = some j) w w'
theorem Fr.grew {w w' : World} {r : Option Nat} (g : w.grownBy w' r) : Fr (fun j => r = some j) w w' := ⟨g.os, g.tape, g.output, g.size, fun k hk hn => g.block k hk (fun e => hn e.symm)⟩
set_option maxRecDepth 100000 in
set_option maxHeartbeats 1600000 in
theorem ins_end {w : World} {v : Value} {l : List Tm} (h : w.ownsRow 0 53 3 v l.length (tmC l)) (hl : l.length ≤ 16384) (t : Tm) {vb : Nat} (hvb : w.heap[vb]? = some (.cells (tmV t).toArray 53 (0, 0))) :
    Calls Try.prog 55 #[v, .int .i64 (l.length : Int), .slice (some ⟨vb, 0, none⟩) 1 1] w fun e w' => ∃ v', e = .returned v' ∧ Kept w w' v v' (l ++ [t]) := by
  obtain ⟨i, h1, h2, h3, h4⟩ := info53
  obtain ⟨v', w', hrun, r1, r2, _, r4⟩ := run_append_own_at (P := Try.prog) w 0 48 48 53 i _ 3 24 Try.underlying48 h1 h2 h3 h4 rfl (by decide) v l.length (tmC l) h ⟨vb, 0, none⟩ 1 1 (tmV t) rfl (tmV_at hvb) (tmV_one t) (by unfold maxLen; omega) (by omega) (Nat.zero_le _)
  have hK : Hid (Kept w w' v v' (l ++ [t])) := Lib.hid ⟨by
    rw [List.length_append, tmC_append]
    exact r1, r4, Fr.grew r2⟩
  rcases tm_form h with ⟨rfl, h0⟩ | ⟨g, c, cur, rfl, hc1, hc2, hc3, hc4, hc5⟩
  · rw [h0]
    clear h r1 r2 r4 hvb h0 h1 h2 h3 h4
    go_enter Try.func55, Try.ntmps55
    go_wp2_with (at_builtin; refine Lib.wpList_append_run _ rfl _ _ _ _ rfl _ _ rfl rfl _ _ hrun ?_)
    go_ret
    exact ⟨_, rfl, hK.out⟩
  · unfold maxLen at hc2
    clear h r1 r2 r4 hvb h1 h2 h3 h4 hc3 hc4 hc5
    generalize l.length = n at *
    go_enter Try.func55, Try.ntmps55
    go_wp2_with (at_builtin; refine Lib.wpList_append_run _ rfl _ _ _ _ rfl _ _ rfl rfl _ _ hrun ?_)
    all_goals
      go_ret
      exact ⟨_, rfl, hK.out⟩
set_option maxRecDepth 100000 in
set_option maxHeartbeats 1600000 in
theorem ins_shift {w : World} {g c : Nat} {l : List Tm} (h : w.ownsRow 0 53 3 (.slice (some ⟨g, 0, none⟩) l.length c) l.length (tmC l)) (hl : l.length ≤ 16384) (i : Nat) (hi : i < l.length) (hroom : l.length + 1 ≤ c) (t : Tm) {vb : Nat} (hvb : w.heap[vb]? = some (.cells (tmV t).toArray 53 (0, 0))) (hne : vb ≠ g) :
    Calls Try.prog 55 #[.slice (some ⟨g, 0, none⟩) l.length c, .int .i64 (i : Int), .slice (some ⟨vb, 0, none⟩) 1 1] w fun e w' => ∃ v', e = .returned v' ∧ Kept w w' (.slice (some ⟨g, 0, none⟩) l.length c) v' (l.take i ++ t :: l.drop i) := by
  rcases tm_form h with ⟨e0, _⟩ | ⟨g', c', cur, e0, hc1, hc2, hc3, hc4, hc5⟩
  · cases e0
  injection e0 with e1 _ e3
  injection e1 with e1
  injection e1 with e1
  subst e1 e3
  have hA : (tmC (l.take i)).length = i * 3 := by rw [tmC_len, List.length_take]; omega
  have hB : (tmC (l.drop i)).length = (l.length - i) * 3 := by rw [tmC_len, List.length_drop]
  have hR : (cur.toList.drop (l.length * 3)).length = (c - l.length) * 3 := by rw [List.length_drop, Array.length_toList, hc4]; omega
  have hsp : tmC l = tmC (l.take i) ++ tmC (l.drop i) := by rw [← tmC_append, List.take_append_drop]
  rw [hsp] at hc5
  have hcsz : cur.toList.length = c * 3 := by rw [Array.length_toList, hc4]
  have hcu : ∀ j u, (tmC (l.drop i))[j]? = some u → w.cell? ⟨g, i * 3 + j, none⟩ = some u := fun j u hu => by
    rw [cell_of_row w g _ cur 53 (0, 0) hc3, ← Array.getElem?_toList, hc5, List.append_assoc, List.getElem?_append_right (by omega), hA, Nat.add_sub_cancel_left]
    have hj : j < (tmC (l.drop i)).length := (List.getElem?_eq_some_iff.1 hu).1
    rw [List.getElem?_append_left hj]
    exact hu
  have hcp1 : ∀ dc sc ty, (Builtin.copy_ #[48, 48] ty #[.slice (some ⟨g, (i + 1) * 3, none⟩) (l.length + 1 - (i + 1)) dc, .slice (some ⟨g, i * 3, none⟩) (l.length + 1 - i) sc]).run Try.prog w.drew = .ok (goInt ((l.length - i : Nat) : Int)) (w.drew.setRow g (cur.toList.take ((i + 1) * 3) ++ tmC (l.drop i) ++ cur.toList.drop ((i + 1) * 3 + (tmC (l.drop i)).length)).toArray) := fun dc sc ty =>
    run_copy3 w.drew g ((i + 1) * 3) (l.length + 1 - (i + 1)) dc ⟨g, i * 3, none⟩ (l.length + 1 - i) sc (l.length - i) cur (tmC (l.drop i)) hc3 (by simp only [Nat.min_def]; split <;> omega) hB (fun j u hu => by rw [Go.WideShapes.add_plain]; exact hcu j u hu) (by rw [hB, hc4]; omega) (tmC_one _) ty
  obtain ⟨C1, HC1⟩ := named (cur.toList.take ((i + 1) * 3) ++ tmC (l.drop i) ++ cur.toList.drop ((i + 1) * 3 + (tmC (l.drop i)).length))
  rw [HC1.out] at hcp1
  have hC1l : C1.length = c * 3 := by
    rw [← HC1.out, List.length_append, List.length_append, List.length_take, List.length_drop, hB, hcsz]
    omega
  have hg1 : (w.drew.setRow g C1.toArray).heap[g]? = some (.cells C1.toArray 53 (0, 0)) := setRow_heap w.drew g cur _ 53 (0, 0) hc3
  have hv1 : (w.drew.setRow g C1.toArray).heap[vb]? = some (.cells (tmV t).toArray 53 (0, 0)) := (setRow_other w.drew g vb _ hne).trans hvb
  have hcp2 : ∀ dc ty, (Builtin.copy_ #[48, 48] ty #[.slice (some ⟨g, i * 3, none⟩) (l.length + 1 - i) dc, .slice (some ⟨vb, 0, none⟩) 1 1]).run Try.prog (w.drew.setRow g C1.toArray) = .ok (goInt 1) ((w.drew.setRow g C1.toArray).setRow g (C1.take (i * 3) ++ tmV t ++ C1.drop (i * 3 + (tmV t).length)).toArray) := fun dc ty =>
    run_copy3 _ g (i * 3) (l.length + 1 - i) dc ⟨vb, 0, none⟩ 1 1 1 C1.toArray (tmV t) hg1 (by simp only [Nat.min_def]; split <;> omega) rfl (tmV_at hv1) (by simp only [List.size_toArray, hC1l]; show i * 3 + 3 ≤ _; omega) (tmV_one t) ty
  have hfin : C1.take (i * 3) ++ tmV t ++ C1.drop (i * 3 + (tmV t).length) = tmC (l.take i ++ t :: l.drop i) ++ (cur.toList.drop (l.length * 3)).drop 3 := by
    have := shift_list (A := tmC (l.take i)) (B := tmC (l.drop i)) (R := cur.toList.drop (l.length * 3)) (T := tmV t) hA hB (by rw [hR]; omega)
    simp only at this
    rw [tmC_ins, ← this, ← HC1.out, hB]
    rw [← hc5, show (i + 1) * 3 = i * 3 + 3 by omega]
    rfl
  rw [hfin] at hcp2
  have hov : ∀ lb cb, (callFunc 69 #[.slice (some ⟨vb, 0, none⟩) 1 1, .slice (some ⟨g, (i + 1) * 3, none⟩) lb cb]).run Try.prog w = .ok (.value (.bool false)) w := fun lb cb => by
    rw [run_callFunc_extern Try.func69 (by kernel_rfl) (by kernel_rfl) (by kernel_rfl) (e := Extern.SlicesOverlaps.overlaps #[48, 48] #[4]) (by kernel_rfl),
      Lib.run_overlaps_apart w 48 4 53 Try.underlying48 3 Try.sizeOf53 ⟨vb, 0, none⟩ ⟨g, (i + 1) * 3, none⟩ 1 1 lb cb hne 53 53 3 (c * 3) (by simp only [World.shape?, hvb]; rfl) (by simp only [World.shape?, hc3, hc4]) (by omega) (by simp [World.frozen?, hvb]) (by simp [World.frozen?, hvb])]
    rfl
  obtain ⟨C2, HC2⟩ := named (tmC (l.take i ++ t :: l.drop i) ++ (cur.toList.drop (l.length * 3)).drop 3)
  have hK : Hid (Kept w ((w.drew.setRow g C1.toArray).setRow g C2.toArray) (.slice (some ⟨g, 0, none⟩) l.length c) (.slice (some ⟨g, 0, none⟩) (l.length + 1) c) (l.take i ++ t :: l.drop i)) := by
    have hll : (l.take i ++ t :: l.drop i).length = l.length + 1 := by rw [List.length_append, List.length_take, List.length_cons, List.length_drop]; omega
    have hg2 : ((w.drew.setRow g C1.toArray).setRow g C2.toArray).heap[g]? = some (.cells C2.toArray 53 (0, 0)) := setRow_heap _ g _ _ 53 (0, 0) hg1
    have hC2l : C2.length = c * 3 := by
      rw [← HC2.out, List.length_append, List.length_drop, hR, tmC_len, hll]
      omega
    refine ⟨?_, Or.inl rfl, rfl, rfl, rfl, by simp, fun j hj hn => ?_⟩
    · rw [hll]
      refine ⟨by rw [tmC_len, hll], Or.inr ⟨g, c, C2.toArray, rfl, Nat.zero_le _, hg2, hroom, hc2, by simpa using hC2l, ?_⟩⟩
      show C2.take ((l.length + 1) * 3) = _
      rw [← HC2.out, List.take_append, tmC_len, hll, List.take_of_length_le (by rw [tmC_len, hll]; exact Nat.le_refl _), Nat.sub_self, List.take_zero, List.append_nil]
    · have hjg : j ≠ g := fun e => hn (by rw [e]; rfl)
      rw [setRow_other _ _ _ _ hjg, setRow_other _ _ _ _ hjg]
      rfl
  rw [HC2.out] at hcp2
  unfold maxLen at hc2
  clear h hc3 hc4 hc5 hA hB hR hsp hcsz hcu hC1l hg1 hv1 hfin hvb HC1 HC2
  generalize l.length = n at *
  have hw1 : IntKind.i64.wrap ((i : Int) + 1) = (i : Int) + 1 := by rw [IntKind.wrap_i64]; omega
  have hz2 : ¬ ((i : Int) = (n : Int)) := by omega
  have hb1 : (0 : Int) ≤ (i : Int) + 1 := by omega
  have hin : i ≤ n := by omega
  have htn : ((i : Int) + 1).toNat = i + 1 := by omega
  have hb2 : ¬ (c = i + 1) := by omega
  have hb3 : (i : Int) ≤ (n : Int) + 1 := by omega
  have hb4 : ¬ (c = i) := by omega
  go_enter Try.func55, Try.ntmps55
  go_wp2_with (simp only [hov])
  go_region_law (refine step_copy_runI rfl (.tmp 73) (.tmp 76) 48 48 rfl (.slice (some ⟨g, (i + 1) * 3, none⟩) (n + 1 - (i + 1)) (c - (i + 1))) (.slice (some ⟨g, i * 3, none⟩) (n + 1 - i) (c - i)) (by simp [Act.eval, Act.put]) (by simp [Act.eval, Act.put]) (hcp1 _ _ _) ?_)
  all_goals
    go_wp2_with (at_builtin; refine wpList_copy_runI _ rfl _ _ 48 48 rfl _ _ rfl rfl (hcp2 _ _) ?_)
    go_ret
    exact ⟨_, rfl, hK.out⟩
end Go.Proofs.Ytfhlfklgngpklaa
