/-
  Plain mathematics of reading: an item that is a message's is read as it.
-/
import Derived.Test.YtchmiiclogmheaaDoorMa3
namespace Go.Proofs.YtchmiiclogmheaaDoor.C2
open Go.RowKit
/-- What a field that was read lies between. -/
structure FdB (M : MM) (f : Nat) : Prop where
  w : f = 7 → M.ws.length ≤ 16384 ∧ ∀ j, j < M.ws.length → 0 ≤ M.ws.getD j 0 ∧ M.ws.getD j 0 ≤ 4294967295
  m : f = 8 → M.ms.length ≤ 16384 ∧ ∀ j, j < M.ms.length → (mat M.ms j).ds.length ≤ 16384 ∧ ∀ i, i < (mat M.ms j).ds.length → 0 ≤ (mat M.ms j).ds.getD i 0 ∧ (mat M.ms j).ds.getD i 0 ≤ 18446744073709551615
  d : f = 9 → M.ds.length ≤ 16384 ∧ ∀ j, j < M.ds.length → 0 ≤ M.ds.getD j 0 ∧ M.ds.getD j 0 ≤ 18446744073709551615
theorem fd_sm {M : MM} {f : Nat} {x : T} (hf : f ≤ 9) (hk : Okk 7 x) (ho : okF f x = true) (hx : isFd M f x) : Sm 7 x (pF M f) ∧ wB M f = true ∧ FdB M f := by
  unfold okF at ho
  unfold isFd at hx
  by_cases e7 : f = 7
  · subst e7
    have hx : M.ws = xN x := hx
    have ho : okN x 4294967295 = true := ho
    obtain ⟨h1, h2⟩ := okN_sm (f := 5) hk ho
    rw [← hx] at h1 h2
    have hl : M.ws.length ≤ 16384 := by rw [hx, xN_len]; exact hk.2.1
    exact ⟨h1, rfl, ⟨fun _ => ⟨hl, h2⟩, fun h => by omega, fun h => by omega⟩⟩
  · rw [if_neg e7] at ho hx
    by_cases e8 : f = 8
    · subst e8
      have hx : M.ms = xMs x := hx
      have ho : okMs x = true := ho
      obtain ⟨h1, h2⟩ := okMs_sm (f := 3) hk ho
      rw [← hx] at h1 h2
      have hl : M.ms.length ≤ 16384 := by rw [hx]; simp [xMs]; exact hk.2.1
      refine ⟨h1, ?_, ⟨fun h => by omega, fun _ => ⟨hl, fun j hj => (h2 j hj).2⟩, fun h => by omega⟩⟩
      show (!(M.ms.any outB)) = true
      have : M.ms.any outB = false := by
        rw [List.any_eq_false]
        intro y hy
        obtain ⟨j, hj, rfl⟩ := List.getElem_of_mem hy
        have h3 := (h2 j hj).1
        rw [show mat M.ms j = M.ms[j] by unfold mat; simp [List.getD, hj]] at h3
        unfold outB
        simp
        omega
      rw [this]
      rfl
    · rw [if_neg e8] at ho hx
      by_cases e9 : f = 9
      · subst e9
        have hx : M.ds = xN x := hx
        have ho : okN x 18446744073709551615 = true := ho
        obtain ⟨h1, h2⟩ := okN_sm (f := 5) hk ho
        rw [← hx] at h1 h2
        have hl : M.ds.length ≤ 16384 := by rw [hx, xN_len]; exact hk.2.1
        exact ⟨h1, rfl, ⟨fun h => by omega, fun h => by omega, fun _ => ⟨hl, h2⟩⟩⟩
      · rw [if_neg e9] at ho hx
        have hs := okS_is.1 ho
        refine ⟨?_, ?_, ⟨fun h => by omega, fun h => by omega, fun h => by omega⟩⟩
        · have e : pF M (f : Int) = nT x.n := by
            unfold pF
            rw [if_neg (by omega), if_neg (by omega), if_neg (by omega), Int.toNat_natCast, hx]
          rw [e]
          exact sm_of_num hk hs.1
        · unfold wB
          rw [if_neg (by omega), if_neg (by omega), hx, Bool.and_eq_true, decide_eq_true_eq, decide_eq_true_eq]
          exact ⟨hk.n_.1, hs.2⟩
theorem zB_nil {M : MM} : (zB M 7 = true → M.ws = []) ∧ (zB M 8 = true → M.ms = []) ∧ (zB M 9 = true → M.ds = []) := by
  refine ⟨fun h => ?_, fun h => ?_, fun h => ?_⟩
  · have h : ((M.ws.length : Int) == 0) = true := h
    simpa using h
  · have h : ((M.ms.length : Int) == 0) = true := h
    simpa using h
  · have h : ((M.ds.length : Int) == 0) = true := h
    simpa using h
theorem okM_parts {t : T} (ho : okM t = true) : 0 < t.l.length ∧ okS (t.m 0) 1073741824 = true ∧ isKB (t.m 0).n = true ∧ t.l.length = 1 + (fl (t.m 0).n.toNat).length ∧ ∀ j, j < (fl (t.m 0).n.toNat).length → okF ((fl (t.m 0).n.toNat).getD j 0).toNat (t.m (j + 1)) = true := by
  unfold okM okK at ho
  simp only [Bool.and_eq_true, decide_eq_true_eq, List.all_eq_true, List.mem_range] at ho
  obtain ⟨⟨h1, ⟨h2, h3⟩, h4⟩, h5⟩ := ho
  exact ⟨h1, h2, h3, h4, h5⟩
theorem fl_nodup (i : Nat) : (fl i).Nodup := by
  unfold fl
  split <;> decide
/-- What is read of an item is a message that may be, whose item it is. -/
theorem rm_ok {t : T} (hk : Okk 8 t) (ho : okM t = true) : mayB (RM t) = true ∧ longM (RM t) = false ∧ Rng (RM t) ∧ Sm 8 t (pT (RM t)) := by
  obtain ⟨h1, h2, h3, h4, h5⟩ := okM_parts ho
  obtain ⟨L, hL⟩ : ∃ L, fl (t.m 0).n.toNat = L := ⟨_, rfl⟩
  have hb := fl_le (t.m 0).n.toNat
  have hn := fl_nodup (t.m 0).n.toNat
  obtain ⟨g1, g2, g3⟩ := rmk_fields (t.m 0).n (fl (t.m 0).n.toNat) t hb hn (fl (t.m 0).n.toNat).length (Nat.le_refl _)
  have hM : RMk (t.m 0).n (fl (t.m 0).n.toNat) t (fl (t.m 0).n.toNat).length = RM t := rfl
  rw [hM] at g1 g2 g3
  rw [hL] at h4 h5 hb g2 g3
  have hfK : fK (RM t) = L := by unfold fK; rw [g1]; exact hL
  generalize RM t = M at *
  have bnd : ∀ i, i < L.length → 0 ≤ L.getD i 0 ∧ L.getD i 0 ≤ 9 := fun i hi => by
    rw [show L.getD i 0 = L[i] by simp [List.getD, hi]]
    exact hb _ (List.getElem_mem _)
  have fd : ∀ i, i < L.length → Sm 7 (t.m (i + 1)) (pF M (L.getD i 0)) ∧ wB M (L.getD i 0).toNat = true ∧ FdB M (L.getD i 0).toNat := fun i hi => by
    have hbi := bnd i hi
    have := fd_sm (M := M) (f := (L.getD i 0).toNat) (by omega) (hk.m_ (by omega)) (h5 i hi) (g2 i hi)
    rw [show (((L.getD i 0).toNat : Nat) : Int) = L.getD i 0 by omega] at this
    exact this
  have dich : ∀ f, f ≤ 9 → (∃ i, i < L.length ∧ (L.getD i 0).toNat = f) ∨ zB M f = true := fun f hf => by
    by_cases h : ∃ i, i < L.length ∧ (L.getD i 0).toNat = f
    · exact Or.inl h
    · exact Or.inr (g3 f hf (fun i hi e => h ⟨i, hi, e⟩))
  have w7 : M.ws.length ≤ 16384 ∧ ∀ j, j < M.ws.length → 0 ≤ M.ws.getD j 0 ∧ M.ws.getD j 0 ≤ 4294967295 := by
    rcases dich 7 (by omega) with ⟨i, hi, e⟩ | h
    · exact (fd i hi).2.2.w e
    · rw [zB_nil.1 h]; exact ⟨by simp, fun j hj => by simp at hj⟩
  have w8 : M.ms.length ≤ 16384 ∧ ∀ j, j < M.ms.length → (mat M.ms j).ds.length ≤ 16384 ∧ ∀ i, i < (mat M.ms j).ds.length → 0 ≤ (mat M.ms j).ds.getD i 0 ∧ (mat M.ms j).ds.getD i 0 ≤ 18446744073709551615 := by
    rcases dich 8 (by omega) with ⟨i, hi, e⟩ | h
    · exact (fd i hi).2.2.m e
    · rw [zB_nil.2.1 h]; exact ⟨by simp, fun j hj => by simp at hj⟩
  have w9 : M.ds.length ≤ 16384 ∧ ∀ j, j < M.ds.length → 0 ≤ M.ds.getD j 0 ∧ M.ds.getD j 0 ≤ 18446744073709551615 := by
    rcases dich 9 (by omega) with ⟨i, hi, e⟩ | h
    · exact (fd i hi).2.2.d e
    · rw [zB_nil.2.2 h]; exact ⟨by simp, fun j hj => by simp at hj⟩
  refine ⟨mayB_yes (by rw [g1]; exact h3) (fun f hf => ?_), ?_, ⟨w7.2, w9.2, fun j hj => (w8.2 j hj).2⟩, ?_⟩
  · unfold tB
    change (if (fK M).contains (f : Int) then wB M f else zB M f) = true
    rw [hfK]
    by_cases hc : L.contains (f : Int) = true
    · rw [if_pos hc]
      obtain ⟨i, hi, e⟩ := List.getElem_of_mem (List.contains_iff_mem.1 hc)
      have := (fd i hi).2.1
      rw [show (L.getD i 0).toNat = f by simp [List.getD, hi, e]] at this
      exact this
    · rw [if_neg hc]
      rcases dich f (by omega) with ⟨i, hi, e⟩ | h
      · have hbi := bnd i hi
        exact absurd (List.contains_iff_mem.2 (by
          rw [show (f : Int) = L[i] by
            have : L.getD i 0 = L[i] := by simp [List.getD, hi]
            omega]
          exact List.getElem_mem _)) hc
      · exact h
  · unfold longM
    rw [Bool.or_eq_false_iff]
    refine ⟨decide_eq_false (by omega), ?_⟩
    rw [List.any_eq_false]
    intro y hy
    obtain ⟨j, hj, rfl⟩ := List.getElem_of_mem hy
    have := (w8.2 j hj).1
    rw [show mat M.ms j = M.ms[j] by unfold mat; simp [List.getD, hj]] at this
    unfold longB
    simp
    omega
  · unfold pT
    rw [hfK, g1]
    refine sm_of_list hk (okk_some hk h1) (by simp [h4]; omega) (fun j hj => ?_)
    cases j with
    | zero => exact sm_of_num (hk.m_ h1) (okS_is.1 h2).1
    | succ j =>
      have hj : j < L.length := by omega
      rw [show ((nT (t.m 0).n :: L.map (pF M)).getD (j + 1) T.zero) = pF M (L.getD j 0) by simp [List.getD, hj]]
      exact (fd j hj).1
theorem Sm.trans : ∀ {f : Nat} {t u v : T}, Sm f t u → Sm f u v → Sm f t v
  | 0, _, _, _, _, _ => trivial
  | f + 1, _, _, _, ⟨h1, h2, h3, h4, h5⟩, ⟨k1, k2, k3, k4, k5⟩ => ⟨h1.trans k1, h2.trans k2, h3.trans k3, h4.trans k4, fun j hj => (h5 j hj).trans (k5 j (by omega))⟩
theorem sm_okN {f : Nat} {x : T} {xs : List Int} {mx : Int} {a : Option Addr} {c : Nat} (h : Sm (f + 2) x (lT a c (xs.map nT))) (hb : ∀ j, j < xs.length → xs.getD j 0 ≤ mx) : okN x mx = true := by
  obtain ⟨h1, _, _, h4, h5⟩ := h
  have h4 : x.l.length = xs.length := by
    have : x.l.length = (xs.map nT).length := h4
    simpa using this
  unfold okN
  rw [Bool.and_eq_true, decide_eq_true_eq]
  refine ⟨h1, m_all (fun j hj => okS_is.2 ?_)⟩
  have h6 := h5 j hj
  have e : (lT a c (xs.map nT)).m j = nT (xs.getD j 0) := by
    show (xs.map nT).getD j T.zero = _
    simp [List.getD, show j < xs.length by omega]
  rw [e] at h6
  exact ⟨h6.1, by rw [h6.2.1]; exact hb j (by omega)⟩
theorem sm_okX {f : Nat} {x : T} {y : MX} (h : Sm (f + 3) x (pX y)) (ho : outB y = false) (hb : ∀ j, j < y.ds.length → y.ds.getD j 0 ≤ 18446744073709551615) : okX x = true := by
  obtain ⟨h1, _, _, h4, h5⟩ := h
  have h4 : x.l.length = 4 := h4
  have o := out_ok ho
  have m0 := h5 0 (by omega)
  have m1 := h5 1 (by omega)
  have m2 := h5 2 (by omega)
  have m3 := h5 3 (by omega)
  unfold okX
  simp only [Bool.and_eq_true, decide_eq_true_eq]
  refine ⟨h4, ⟨⟨okS_is.2 ⟨m0.1, ?_⟩, okS_is.2 ⟨m1.1, ?_⟩⟩, okS_is.2 ⟨m2.1, ?_⟩⟩, sm_okN (f := f) m3 hb⟩
  · rw [m0.2.1]; show y.lv ≤ _; omega
  · rw [m1.2.1]; show y.ce ≤ _; omega
  · rw [m2.2.1]; show y.ep ≤ _; omega
theorem sm_okF {m : MM} {f : Nat} {x : T} (hf : f ≤ 9) (h : Sm 7 x (pF m f)) (hw : wB m f = true) (hr : Rng m) : okF f x = true := by
  unfold okF
  by_cases e7 : f = 7
  · subst e7
    rw [if_pos rfl]
    exact sm_okN (f := 5) (h : Sm 7 x (lT none 0 (m.ws.map nT))) (fun j hj => (hr.wb j hj).2)
  · rw [if_neg e7]
    by_cases e8 : f = 8
    · subst e8
      rw [if_pos rfl]
      have h : Sm 7 x (lT none 0 (m.ms.map pX)) := h
      obtain ⟨h1, _, _, h4, h5⟩ := h
      have h4 : x.l.length = m.ms.length := by
        have : x.l.length = (m.ms.map pX).length := h4
        simpa using this
      have ha : m.ms.any outB = false := by
        have : wB m 8 = !(m.ms.any outB) := rfl
        rw [this] at hw
        simpa using hw
      unfold okMs
      rw [Bool.and_eq_true, decide_eq_true_eq]
      refine ⟨h1, m_all (fun j hj => ?_)⟩
      have h6 := h5 j hj
      have e : (lT none 0 (m.ms.map pX)).m j = pX (mat m.ms j) := by
        show (m.ms.map pX).getD j T.zero = _
        unfold mat
        simp [List.getD, show j < m.ms.length by omega]
      rw [e] at h6
      exact sm_okX (f := 3) h6 (by simpa using (List.any_eq_false.1 ha) (mat m.ms j) (by unfold mat; simp [List.getD, show j < m.ms.length by omega])) (fun i hi => (hr.mb j (by omega) i hi).2)
    · rw [if_neg e8]
      by_cases e9 : f = 9
      · subst e9
        rw [if_pos rfl]
        exact sm_okN (f := 5) (h : Sm 7 x (lT none 0 (m.ds.map nT))) (fun j hj => (hr.db j hj).2)
      · rw [if_neg e9]
        have e : pF m (f : Int) = nT (nF m f) := by
          unfold pF
          rw [if_neg (by omega), if_neg (by omega), if_neg (by omega), Int.toNat_natCast]
        rw [e] at h
        unfold wB at hw
        rw [if_neg (by omega), if_neg (by omega), Bool.and_eq_true, decide_eq_true_eq, decide_eq_true_eq] at hw
        exact okS_is.2 ⟨h.1, by rw [h.2.1]; exact hw.2⟩
/-- An item that is a message's is read as it. -/
theorem rm_back {t : T} {m : MM} (hk : Okk 8 t) (hs : Sm 8 t (pT m)) (hm : mayB m = true) (hr : Rng m) : okM t = true ∧ RM t = m := by
  have ho : okM t = true := by
    obtain ⟨h1, _, _, h4, h5⟩ := hs
    have h4 : t.l.length = 1 + (fK m).length := by
      have : t.l.length = (nT m.kd :: (fK m).map (pF m)).length := h4
      simpa [Nat.add_comm] using this
    obtain ⟨⟨k1, k4⟩, hf⟩ := mayB_parts hm
    have m0 : Sm 7 (t.m 0) (nT m.kd) := h5 0 (by omega)
    have e0 : (t.m 0).n = m.kd := m0.2.1
    unfold okM okK
    rw [e0]
    change (decide (0 < t.l.length) && (okS (t.m 0) 1073741824 && isKB m.kd && decide (t.l.length = 1 + (fK m).length)) && ((List.range (fK m).length).all (fun j => okF ((fK m).getD j 0).toNat (t.m (j + 1))))) = true
    simp only [Bool.and_eq_true, decide_eq_true_eq, List.all_eq_true, List.mem_range]
    refine ⟨⟨by omega, ⟨okS_is.2 ⟨m0.1, by rw [e0]; omega⟩, decide_eq_true ⟨k1, k4⟩⟩, h4⟩, fun j hj => ?_⟩
    have hmem : (fK m)[j] ∈ fK m := List.getElem_mem _
    obtain ⟨b0, b9⟩ := fl_le _ _ hmem
    obtain ⟨f, e⟩ := Int.eq_ofNat_of_zero_le b0
    have eg : (fK m).getD j 0 = (f : Int) := by rw [← e]; simp [List.getD, hj]
    have ht := hf f (by omega)
    unfold tB at ht
    change (if (fK m).contains (f : Int) then wB m f else zB m f) = true at ht
    rw [if_pos (List.contains_iff_mem.2 (by rw [← e]; exact hmem))] at ht
    have h6 := h5 (j + 1) (by omega)
    have e2 : (pT m).m (j + 1) = pF m f := by
      show (nT m.kd :: (fK m).map (pF m)).getD (j + 1) T.zero = _
      rw [← eg]
      simp [List.getD, hj]
    rw [e2] at h6
    rw [eg, Int.toNat_natCast]
    exact sm_okF (by omega) h6 ht hr
  obtain ⟨g1, g2, g3, g4⟩ := rm_ok hk ho
  exact ⟨ho, sm_msg g1 hm (pT_is _) (pT_is _) (g4.symm.trans hs)⟩
end Go.Proofs.YtchmiiclogmheaaDoor.C2
