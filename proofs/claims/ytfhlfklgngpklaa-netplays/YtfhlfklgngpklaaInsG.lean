/-
  Contract of slices.Insert of one timer: the third road, and all of them.
-/
import Derived.Test.YtfhlfklgngpklaaIns
import Derived.Shelf.Spec.SlicesInsertGrow
namespace Go.Proofs.Ytfhlfklgngpklaa
open Go.RowKit Go.Maps
/-- The lists of the road with a new row. -/
theorem grow_list {A B Z R T : List Value} {a b : Nat} (hA : A.length = a) (hB : B.length = b) (hZ : Z.length = b + 3) (hT : T.length = 3) :
    let C := A ++ Z ++ R
    let C1 := C.take a ++ T ++ C.drop (a + 3)
    C1.take (a + 3) ++ B ++ C1.drop (a + 3 + b) = A ++ T ++ B ++ R := by
  intro C C1
  have h1 : C.take a = A := by
    show (A ++ Z ++ R).take a = _
    rw [List.append_assoc, List.take_append, hA, Nat.sub_self, List.take_zero, List.append_nil, List.take_of_length_le (by omega)]
  have h2 : C.drop (a + 3) = Z.drop 3 ++ R := by
    show (A ++ Z ++ R).drop (a + 3) = _
    rw [List.append_assoc, List.drop_append, hA, List.drop_of_length_le (by omega), List.nil_append, Nat.add_sub_cancel_left, List.drop_append, hZ, show 3 - (b + 3) = 0 by omega, List.drop_zero]
  have h3 : C1 = (A ++ T) ++ (Z.drop 3 ++ R) := by
    show C.take a ++ T ++ C.drop (a + 3) = _
    rw [h1, h2]
  have hAT : (A ++ T).length = a + 3 := by rw [List.length_append]; omega
  have hZ3 : (Z.drop 3).length = b := by rw [List.length_drop]; omega
  have h4 : C1.take (a + 3) = A ++ T := by rw [h3, List.take_append, hAT, Nat.sub_self, List.take_zero, List.append_nil, List.take_of_length_le (by omega)]
  have h5 : C1.drop (a + 3 + b) = R := by
    rw [h3, List.drop_append, hAT, List.drop_of_length_le (by omega), List.nil_append, Nat.add_sub_cancel_left, List.drop_append, hZ3, List.drop_of_length_le (by omega), List.nil_append, Nat.sub_self, List.drop_zero]
  rw [h4, h5]
def z53 : Value := .agg #[.int .i64 0, .int .i64 0, .int .i64 0]
theorem zc_size (k : Nat) : (Builtin.zeroCells z53.cells k).size = k * 3 := by simp [Builtin.zeroCells, z53, Value.cells]
set_option maxRecDepth 100000 in
set_option maxHeartbeats 1600000 in
theorem ins_grow {w : World} {g c : Nat} {l : List Tm} (h : w.ownsRow 0 53 3 (.slice (some ⟨g, 0, none⟩) l.length c) l.length (tmC l)) (hl : l.length ≤ 16384) (i : Nat) (hi : i < l.length) (hroom : c < l.length + 1) (t : Tm) {vb : Nat} (hvb : w.heap[vb]? = some (.cells (tmV t).toArray 53 (0, 0))) :
    Calls Try.prog 55 #[.slice (some ⟨g, 0, none⟩) l.length c, .int .i64 (i : Int), .slice (some ⟨vb, 0, none⟩) 1 1] w fun e w' => ∃ v', e = .returned v' ∧ Kept w w' (.slice (some ⟨g, 0, none⟩) l.length c) v' (l.take i ++ t :: l.drop i) := by
  rcases tm_form h with ⟨e0, _⟩ | ⟨g', c', cur, e0, hc1, hc2, hc3, hc4, hc5⟩
  · cases e0
  injection e0 with e1 _ e3
  injection e1 with e1
  injection e1 with e1
  subst e1 e3
  have hA : (tmC (l.take i)).length = i * 3 := by rw [tmC_len, List.length_take]; omega
  have hB : (tmC (l.drop i)).length = (l.length - i) * 3 := by rw [tmC_len, List.length_drop]
  have hsp : tmC l = tmC (l.take i) ++ tmC (l.drop i) := by rw [← tmC_append, List.take_append_drop]
  rw [hsp] at hc5
  have hgw : g < w.heap.size := lt_of_block hc3
  have hvw : vb < w.heap.size := lt_of_block hvb
  have hcu : ∀ j u, (tmC (l.drop i))[j]? = some u → w.cell? ⟨g, i * 3 + j, none⟩ = some u := fun j u hu => by
    rw [cell_of_row w g _ cur 53 (0, 0) hc3, ← Array.getElem?_toList, hc5, List.append_assoc, List.getElem?_append_right (by omega), hA, Nat.add_sub_cancel_left]
    have hj : j < (tmC (l.drop i)).length := (List.getElem?_eq_some_iff.1 hu).1
    rw [List.getElem?_append_left hj]
    exact hu
  have hca : ∀ j u, (tmC (l.take i))[j]? = some u → w.cell? ((⟨g, 0, none⟩ : Addr).add j) = some u := fun j u hu => by
    rw [Go.WideShapes.add_plain, Nat.zero_add, cell_of_row w g _ cur 53 (0, 0) hc3, ← Array.getElem?_toList, hc5, List.append_assoc]
    have hj : j < (tmC (l.take i)).length := (List.getElem?_eq_some_iff.1 hu).1
    rw [List.getElem?_append_left hj]
    exact hu
  obtain ⟨i0, hi0, hz0, hzs, hzb⟩ := info53
  have hold : (Builtin.firstCells i0.size i (.slice (some ⟨g, 0, none⟩) i c)).run Try.prog w.drew = .ok (tmC (l.take i)).toArray w.drew := by
    rw [hzs]
    exact run_firstCells_some w.drew 3 i ⟨g, 0, none⟩ i c (tmC (l.take i)) (by rw [hA]) hca
  have hik : i + (l.length + 1 - i) = l.length + 1 := by omega
  have hkk : (l.length : Int) + 1 - (i : Int) = ((l.length + 1 - i : Nat) : Int) := by omega
  obtain ⟨G, hG⟩ : ∃ G, G = grownCap w (l.length + 1) c 53 := ⟨_, rfl⟩
  obtain ⟨ROW, hROW⟩ : ∃ ROW : Array Value, ROW = (tmC (l.take i)).toArray ++ Builtin.zeroCells z53.cells (l.length + 1 - i) ++ Builtin.zeroCells z53.cells (G - (l.length + 1)) := ⟨_, rfl⟩
  have hrz : ∀ ty, (Builtin.append_ #[48, 3] ty #[.slice (some ⟨g, 0, none⟩) i c, .int .i64 ((l.length : Int) + 1 - (i : Int))]).run Try.prog w =
      .ok (.slice (some ⟨w.heap.size, 0, none⟩) (l.length + 1) G) (w.drew.alloc (.cells ROW 53)) := fun ty => by
    have h := Lib.run_append_grow_zeros w 48 3 ty 53 i0 _ .i64 .i64 Try.underlying48 Try.underlying3 hi0 hz0 (some ⟨g, 0, none⟩) i c (tmC (l.take i)) hold (l.length + 1 - i) (by omega) (by omega) (by omega) (by omega) (by rw [hzb]; omega) (by rw [hzb, hik]; exact growslice_fits hroom (by omega))
    rw [hik] at h
    rw [hkk, hROW, hG]
    exact h
  have hGn : l.length + 1 ≤ G := by rw [hG]; exact grownCap_ge w _ _ _
  have hG63 : G ≤ maxLen := by rw [hG]; exact grownCap_le_maxLen w (l.length + 1) c 53 (by unfold maxLen; omega)
  have hRS : ROW.size = G * 3 := by
    rw [hROW]
    simp only [Array.size_append, zc_size, List.size_toArray, hA]
    omega
  have hRl : ROW.toList = tmC (l.take i) ++ (Builtin.zeroCells z53.cells (l.length + 1 - i)).toList ++ (Builtin.zeroCells z53.cells (G - (l.length + 1))).toList := by rw [hROW]; simp
  obtain ⟨N, HN⟩ := named w.heap.size
  rw [HN.out] at hrz
  have hg0 : ((w.alloc (.cells ROW 53)).drew).heap[N]? = some (.cells ROW 53 (0, 0)) := by rw [← HN.out]; exact heap_top w.drew _
  have hv0 : ((w.alloc (.cells ROW 53)).drew).heap[vb]? = some (.cells (tmV t).toArray 53 (0, 0)) := (Below.heap_alloc w.drew _ vb hvw).trans hvb
  obtain ⟨C1, HC1⟩ := named (ROW.toList.take (i * 3) ++ tmV t ++ ROW.toList.drop (i * 3 + (tmV t).length))
  have hcpA : ∀ dc ty, (Builtin.copy_ #[48, 48] ty #[.slice (some ⟨N, i * 3, none⟩) (l.length + 1 - i) dc, .slice (some ⟨vb, 0, none⟩) 1 1]).run Try.prog ((w.alloc (.cells ROW 53)).drew) = .ok (goInt 1) (((w.alloc (.cells ROW 53)).drew).setRow N C1.toArray) := fun dc ty => by
    rw [← HC1.out]
    exact run_copy3 _ N (i * 3) (l.length + 1 - i) dc ⟨vb, 0, none⟩ 1 1 1 ROW (tmV t) hg0 (by simp only [Nat.min_def]; split <;> omega) rfl (tmV_at hv0) (by rw [hRS]; show i * 3 + 3 ≤ _; omega) (tmV_one t) ty
  have hC1l : C1.length = G * 3 := by
    rw [← HC1.out]
    simp only [List.length_append, List.length_take, List.length_drop, Array.length_toList, hRS]
    show min (i * 3) (G * 3) + 3 + (G * 3 - (i * 3 + 3)) = _
    omega
  have hg1 : (((w.alloc (.cells ROW 53)).drew).setRow N C1.toArray).heap[N]? = some (.cells C1.toArray 53 (0, 0)) := setRow_heap _ N _ _ 53 (0, 0) hg0
  have hgN : g ≠ N := by rw [← HN.out]; omega
  have hcB : ∀ j u, (tmC (l.drop i))[j]? = some u → ((((w.alloc (.cells ROW 53)).drew).setRow N C1.toArray).drew).cell? ((⟨g, i * 3, none⟩ : Addr).add j) = some u := fun j u hu => by
    rw [Go.WideShapes.add_plain]
    show (((w.alloc (.cells ROW 53)).drew).setRow N C1.toArray).cell? _ = _
    rw [cell_setRow_other _ _ _ _ hgN]
    have hb : Below w.heap.size w ((w.alloc (.cells ROW 53)).drew) := ((Below.refl _ _).alloc (Nat.le_refl _) _).drew
    exact (hb.cell (p := ⟨g, _, none⟩) hgw).trans (hcu j u hu)
  obtain ⟨C2, HC2⟩ := named (C1.take ((i + 1) * 3) ++ tmC (l.drop i) ++ C1.drop ((i + 1) * 3 + (tmC (l.drop i)).length))
  have hcpB : ∀ dc sc ty, (Builtin.copy_ #[48, 48] ty #[.slice (some ⟨N, (i + 1) * 3, none⟩) (l.length + 1 - (i + 1)) dc, .slice (some ⟨g, i * 3, none⟩) (l.length - i) sc]).run Try.prog ((((w.alloc (.cells ROW 53)).drew).setRow N C1.toArray).drew) = .ok (goInt ((l.length - i : Nat) : Int)) (((((w.alloc (.cells ROW 53)).drew).setRow N C1.toArray).drew).setRow N C2.toArray) := fun dc sc ty => by
    rw [← HC2.out]
    exact run_copy3 ((((w.alloc (.cells ROW 53)).drew).setRow N C1.toArray).drew) N ((i + 1) * 3) (l.length + 1 - (i + 1)) dc ⟨g, i * 3, none⟩ (l.length - i) sc (l.length - i) C1.toArray (tmC (l.drop i)) hg1 (by simp only [Nat.min_def]; split <;> omega) hB hcB (by simp only [List.size_toArray, hC1l, hB]; omega) (tmC_one _) ty
  have hfin : C2 = tmC (l.take i ++ t :: l.drop i) ++ (Builtin.zeroCells z53.cells (G - (l.length + 1))).toList := by
    have := grow_list (A := tmC (l.take i)) (B := tmC (l.drop i)) (Z := (Builtin.zeroCells z53.cells (l.length + 1 - i)).toList) (R := (Builtin.zeroCells z53.cells (G - (l.length + 1))).toList) (T := tmV t) hA hB (by rw [Array.length_toList, zc_size]; omega) rfl
    simp only at this
    rw [tmC_ins, ← this, ← HC2.out, hB, ← HC1.out, ← hRl, show (i + 1) * 3 = i * 3 + 3 by omega]
    rfl
  have hK : Hid (Kept w (((((w.alloc (.cells ROW 53)).drew).setRow N C1.toArray).drew).setRow N C2.toArray) (.slice (some ⟨g, 0, none⟩) l.length c) (.slice (some ⟨N, 0, none⟩) (l.length + 1) G) (l.take i ++ t :: l.drop i)) := by
    have hll : (l.take i ++ t :: l.drop i).length = l.length + 1 := by rw [List.length_append, List.length_take, List.length_cons, List.length_drop]; omega
    have hg2 : (((((w.alloc (.cells ROW 53)).drew).setRow N C1.toArray).drew).setRow N C2.toArray).heap[N]? = some (.cells C2.toArray 53 (0, 0)) := setRow_heap _ N _ _ 53 (0, 0) hg1
    have hC2l : C2.length = G * 3 := by
      have hz : (Builtin.zeroCells z53.cells (G - (l.length + 1))).toList.length = (G - (l.length + 1)) * 3 := by rw [Array.length_toList]; exact zc_size _
      rw [hfin, List.length_append, tmC_len, hll, hz]
      omega
    refine ⟨?_, Or.inr (by rw [HN.out]; rfl), rfl, rfl, rfl, by simp, fun j hj hn => ?_⟩
    · rw [hll]
      refine ⟨by rw [tmC_len, hll], Or.inr ⟨N, G, C2.toArray, rfl, Nat.zero_le _, hg2, hGn, hG63, by simpa using hC2l, ?_⟩⟩
      show C2.take ((l.length + 1) * 3) = _
      rw [hfin, List.take_append, tmC_len, hll, List.take_of_length_le (by rw [tmC_len, hll]; exact Nat.le_refl _), Nat.sub_self, List.take_zero, List.append_nil]
    · have hjN : j ≠ N := by rw [← HN.out]; omega
      rw [setRow_other _ _ _ _ hjN]
      show (((w.alloc (.cells ROW 53)).drew).setRow N C1.toArray).heap[j]? = _
      rw [setRow_other _ _ _ _ hjN]
      exact Below.heap_alloc w.drew _ j hj
  unfold maxLen at hc2 hG63
  have hG1 : ¬ (G = i) := by omega
  have hG2 : ¬ (G = i + 1) := by omega
  have hci : ¬ (c = i) := by omega
  clear h hc3 hc4 hc5 hA hB hsp hcu hca hC1l hg1 hv0 hg0 hfin hvb HC1 HC2 hold hik hkk hROW hRS hRl hcB hG hi0 hz0 hzs hzb HN hgw hvw
  generalize l.length = n at *
  have hw1 : IntKind.i64.wrap ((i : Int) + 1) = (i : Int) + 1 := by rw [IntKind.wrap_i64]; omega
  have hz2 : ¬ ((i : Int) = (n : Int)) := by omega
  have hz3 : (c : Int) < (n : Int) + 1 := by omega
  have hb1 : (0 : Int) ≤ (i : Int) + 1 := by omega
  have hin : i ≤ n := by omega
  have htn : ((i : Int) + 1).toNat = i + 1 := by omega
  have hb3 : (i : Int) ≤ (n : Int) := by omega
  go_enter Try.func55, Try.ntmps55
  go_wp2_with (first
    | (at_builtin; refine Lib.wpList_append_run _ rfl _ _ _ _ rfl _ _ rfl rfl _ _ (hrz _) ?_)
    | (at_builtin; refine wpList_copy_runI _ rfl _ _ 48 48 rfl _ _ rfl rfl (hcpA _ _) ?_))
  go_region_law (refine step_copy_runI rfl (.tmp 50) (.tmp 53) 48 48 rfl (.slice (some ⟨N, (i + 1) * 3, none⟩) (n + 1 - (i + 1)) (G - (i + 1))) (.slice (some ⟨g, i * 3, none⟩) (n - i) (c - i)) (by simp [Act.eval, Act.put]) (by simp [Act.eval, Act.put]) (hcpB _ _ _) ?_)
  all_goals
    go_wp2_with fail
    go_ret
    exact ⟨_, rfl, hK.out⟩
theorem ins_any {w : World} {v : Value} {l : List Tm} (h : w.ownsRow 0 53 3 v l.length (tmC l)) (hl : l.length ≤ 16384) (i : Nat) (hi : i ≤ l.length) (t : Tm) {vb : Nat} (hvb : w.heap[vb]? = some (.cells (tmV t).toArray 53 (0, 0))) (hne : v.ownBlock ≠ some vb) :
    Calls Try.prog 55 #[v, .int .i64 (i : Int), .slice (some ⟨vb, 0, none⟩) 1 1] w fun e w' => ∃ v', e = .returned v' ∧ Kept w w' v v' (l.take i ++ t :: l.drop i) := by
  by_cases he : i = l.length
  · subst he
    have := ins_end h hl t hvb
    rw [List.take_length, List.drop_length]
    exact this
  · rcases tm_form h with ⟨rfl, h0⟩ | ⟨g, c, cur, rfl, hc1, hc2, hc3, hc4, hc5⟩
    · omega
    · by_cases hr : l.length + 1 ≤ c
      · exact ins_shift h hl i (by omega) hr t hvb (fun e => hne (by rw [e]; rfl))
      · exact ins_grow h hl i (by omega) (by omega) t hvb
end Go.Proofs.Ytfhlfklgngpklaa
