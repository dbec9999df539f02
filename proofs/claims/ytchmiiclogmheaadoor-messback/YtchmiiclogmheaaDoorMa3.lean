/-
  Plain mathematics of reading: what is read of an item is a message whose item it is.
-/
import Derived.Test.YtchmiiclogmheaaDoorRd6
import Derived.Test.YtchmiiclogmheaaDoorMa2
namespace Go.Proofs.YtchmiiclogmheaaDoor.C2
open Go.RowKit
theorem Okk.m_ {f : Nat} {t : T} (h : Okk (f + 1) t) {j : Nat} (hj : j < t.l.length) : Okk f (t.m j) := h.2.2.2.2 j hj
theorem Okk.n_ {f : Nat} {t : T} (h : Okk (f + 1) t) : 0 ≤ t.n ∧ t.n ≤ 18446744073709551615 := by have := h.2.2.1; omega
theorem okk_number {f : Nat} {t : T} (h : Okk (f + 1) t) (hk : t.k = 1) : t.s = ⟨#[]⟩ ∧ t.l = [] := by
  have h1 := h.1
  unfold T.keeps at h1
  rcases keeps_cases h1 with ⟨_, h2, h3⟩ | ⟨h2, _⟩ | ⟨h2, _⟩
  · exact ⟨str_nil h2, List.eq_nil_of_length_eq_zero h3⟩
  · omega
  · omega
theorem okk_of_list {f : Nat} {t : T} (h : Okk (f + 1) t) (hk : t.k = 3) : t.s = ⟨#[]⟩ ∧ t.n = 0 := by
  have h1 := h.1
  unfold T.keeps at h1
  rcases keeps_cases h1 with ⟨h2, _⟩ | ⟨h2, _⟩ | ⟨_, h2, h3⟩
  · omega
  · omega
  · exact ⟨str_nil h3, h2⟩
theorem okk_some {f : Nat} {t : T} (h : Okk (f + 1) t) (hl : 0 < t.l.length) : t.k = 3 := by
  have h1 := h.1
  unfold T.keeps at h1
  rcases keeps_cases h1 with ⟨_, _, h3⟩ | ⟨_, _, h3⟩ | ⟨h2, _⟩
  · omega
  · omega
  · exact h2
theorem sm_of_num {f : Nat} {t : T} (h : Okk (f + 1) t) (hk : t.k = 1) : Sm (f + 1) t (nT t.n) := by
  obtain ⟨h1, h2⟩ := okk_number h hk
  exact ⟨hk, rfl, h1, by rw [h2]; rfl, fun j hj => by rw [h2] at hj; cases hj⟩
theorem sm_of_list {f : Nat} {t : T} {l : List T} (h : Okk (f + 1) t) (hk : t.k = 3) (hl : t.l.length = l.length) (hm : ∀ j, j < t.l.length → Sm f (t.m j) (l.getD j T.zero)) : Sm (f + 1) t (lT none 0 l) := by
  obtain ⟨h1, h2⟩ := okk_of_list h hk
  exact ⟨hk, h2, h1, hl, hm⟩
theorem okS_is {t : T} {mx : Int} : okS t mx = true ↔ t.k = 1 ∧ t.n ≤ mx := by
  unfold okS
  rw [Bool.and_eq_true, decide_eq_true_eq, decide_eq_true_eq]
theorem all_m {q : T → Bool} {t : T} (h : t.l.all q = true) {j : Nat} (hj : j < t.l.length) : q (t.m j) = true := by
  rw [List.all_eq_true] at h
  rw [← T.m_eq t j hj]
  exact h _ (List.getElem_mem _)
theorem m_all {q : T → Bool} {t : T} (h : ∀ j, j < t.l.length → q (t.m j) = true) : t.l.all q = true := by
  rw [List.all_eq_true]
  intro x hx
  obtain ⟨j, hj, rfl⟩ := List.getElem_of_mem hx
  rw [T.m_eq t j hj]
  exact h j hj
theorem xN_at {t : T} {j : Nat} (hj : j < t.l.length) : (xN t).getD j 0 = (t.m j).n := by
  unfold xN T.m
  simp [List.getD, hj]
theorem xN_len (t : T) : (xN t).length = t.l.length := by simp [xN]
theorem okN_sm {f : Nat} {t : T} {mx : Int} (h : Okk (f + 2) t) (ho : okN t mx = true) : Sm (f + 2) t (lT none 0 ((xN t).map nT)) ∧ ∀ j, j < (xN t).length → 0 ≤ (xN t).getD j 0 ∧ (xN t).getD j 0 ≤ mx := by
  unfold okN at ho
  rw [Bool.and_eq_true, decide_eq_true_eq] at ho
  refine ⟨sm_of_list h ho.1 (by simp [xN]) (fun j hj => ?_), fun j hj => ?_⟩
  · have hs := okS_is.1 (all_m ho.2 hj)
    rw [show ((xN t).map nT).getD j T.zero = nT ((xN t).getD j 0) by
      have : j < (xN t).length := by rw [xN_len]; exact hj
      simp [List.getD, this]]
    rw [xN_at hj]
    exact sm_of_num (h.m_ hj) hs.1
  · rw [xN_len] at hj
    have hs := okS_is.1 (all_m ho.2 hj)
    rw [xN_at hj]
    exact ⟨(h.m_ hj).n_.1, hs.2⟩
theorem okX_sm {f : Nat} {t : T} (h : Okk (f + 3) t) (ho : okX t = true) : Sm (f + 3) t (pX (xX t)) ∧ ((0 ≤ (xX t).lv ∧ (xX t).lv ≤ 1073741824) ∧ (0 ≤ (xX t).ce ∧ (xX t).ce ≤ 1073741824) ∧ (0 ≤ (xX t).ep ∧ (xX t).ep ≤ 1073741824)) ∧ (xX t).ds.length ≤ 16384 ∧ ∀ j, j < (xX t).ds.length → 0 ≤ (xX t).ds.getD j 0 ∧ (xX t).ds.getD j 0 ≤ 18446744073709551615 := by
  unfold okX at ho
  simp only [Bool.and_eq_true, decide_eq_true_eq] at ho
  obtain ⟨h4, ⟨⟨h0, h1⟩, h2⟩, h3⟩ := ho
  have s0 := okS_is.1 h0
  have s1 := okS_is.1 h1
  have s2 := okS_is.1 h2
  have k := fun j (hj : j < 4) => h.m_ (j := j) (by omega)
  obtain ⟨n1, n2⟩ := okN_sm (f := f) (k 3 (by omega)) h3
  refine ⟨sm_of_list h (okk_some h (by omega)) (by rw [h4]; rfl) (fun j hj => ?_), ⟨⟨(k 0 (by omega)).n_.1, s0.2⟩, ⟨(k 1 (by omega)).n_.1, s1.2⟩, (k 2 (by omega)).n_.1, s2.2⟩, ?_, n2⟩
  · have : j = 0 ∨ j = 1 ∨ j = 2 ∨ j = 3 := by omega
    rcases this with rfl | rfl | rfl | rfl
    · exact sm_of_num (k 0 (by omega)) s0.1
    · exact sm_of_num (k 1 (by omega)) s1.1
    · exact sm_of_num (k 2 (by omega)) s2.1
    · exact n1
  · show (xN (t.m 3)).length ≤ _
    rw [xN_len]
    exact (k 3 (by omega)).2.1
theorem okMs_sm {f : Nat} {t : T} (h : Okk (f + 4) t) (ho : okMs t = true) : Sm (f + 4) t (lT none 0 ((xMs t).map pX)) ∧ ∀ j, j < (xMs t).length → ((0 ≤ (mat (xMs t) j).lv ∧ (mat (xMs t) j).lv ≤ 1073741824) ∧ (0 ≤ (mat (xMs t) j).ce ∧ (mat (xMs t) j).ce ≤ 1073741824) ∧ (0 ≤ (mat (xMs t) j).ep ∧ (mat (xMs t) j).ep ≤ 1073741824)) ∧ (mat (xMs t) j).ds.length ≤ 16384 ∧ ∀ i, i < (mat (xMs t) j).ds.length → 0 ≤ (mat (xMs t) j).ds.getD i 0 ∧ (mat (xMs t) j).ds.getD i 0 ≤ 18446744073709551615 := by
  unfold okMs at ho
  rw [Bool.and_eq_true, decide_eq_true_eq] at ho
  have hlen : (xMs t).length = t.l.length := by simp [xMs]
  have hm : ∀ j, j < t.l.length → mat (xMs t) j = xX (t.m j) := fun j hj => by
    unfold mat xMs T.m
    simp [List.getD, hj]
  refine ⟨sm_of_list h ho.1 (by simp [xMs]) (fun j hj => ?_), fun j hj => ?_⟩
  · have := (okX_sm (f := f) (h.m_ hj) (all_m ho.2 hj)).1
    rw [show ((xMs t).map pX).getD j T.zero = pX (mat (xMs t) j) by
      have : j < (xMs t).length := by omega
      unfold mat
      simp [List.getD, this], hm j hj]
    exact this
  · rw [hlen] at hj
    rw [hm j hj]
    exact (okX_sm (f := f) (h.m_ hj) (all_m ho.2 hj)).2
/-- A message has in a field what an item says. -/
def isFd (M : MM) (f : Nat) (x : T) : Prop := if f = 7 then M.ws = xN x else if f = 8 then M.ms = xMs x else if f = 9 then M.ds = xN x else nF M f = x.n
theorem ten {f : Nat} (h : f ≤ 9) : f = 0 ∨ f = 1 ∨ f = 2 ∨ f = 3 ∨ f = 4 ∨ f = 5 ∨ f = 6 ∨ f = 7 ∨ f = 8 ∨ f = 9 := by omega
theorem set_self {M : MM} {f : Nat} {x : T} (hf : f ≤ 9) : isFd (setF M f x) f x := by
  rcases ten hf with rfl | rfl | rfl | rfl | rfl | rfl | rfl | rfl | rfl | rfl <;> rfl
theorem set_kd {M : MM} {f : Nat} {x : T} (hf : f ≤ 9) : (setF M f x).kd = M.kd := by
  rcases ten hf with rfl | rfl | rfl | rfl | rfl | rfl | rfl | rfl | rfl | rfl <;> rfl
theorem set_oth {M : MM} {f g : Nat} {x : T} (hf : f ≤ 9) (hg : g ≤ 9) (hne : g ≠ f) : eqF (setF M f x) M g := by
  rcases ten hf with rfl | rfl | rfl | rfl | rfl | rfl | rfl | rfl | rfl | rfl <;> rcases ten hg with rfl | rfl | rfl | rfl | rfl | rfl | rfl | rfl | rfl | rfl <;> first | exact absurd rfl hne | rfl
theorem isFd_eq {M M' : MM} {g : Nat} {x : T} (h : eqF M' M g) (hx : isFd M g x) : isFd M' g x := by
  unfold eqF at h
  unfold isFd at hx ⊢
  split <;> rename_i e
  · rw [if_pos e] at h hx; rw [h, hx]
  · rw [if_neg e] at h hx
    split <;> rename_i e2
    · rw [if_pos e2] at h hx; rw [h, hx]
    · rw [if_neg e2] at h hx
      split <;> rename_i e3
      · rw [if_pos e3] at h hx; rw [h, hx]
      · rw [if_neg e3] at h hx; rw [h, hx]
theorem zB_of {M M' : MM} {g : Nat} (h : eqF M' M g) (hz : zB M g = true) : zB M' g = true := by
  unfold eqF at h
  unfold zB at hz ⊢
  split <;> rename_i e
  · rw [if_pos e] at h hz; rw [h]; exact hz
  · rw [if_neg e] at h hz
    split <;> rename_i e2
    · rw [if_pos e2] at h hz; rw [h]; exact hz
    · rw [if_neg e2] at h hz
      split <;> rename_i e3
      · rw [if_pos e3] at h hz; rw [h]; exact hz
      · rw [if_neg e3] at h hz; rw [h]; exact hz
theorem mz_zero (k : Int) {g : Nat} (hg : g ≤ 9) : zB (mz k) g = true := by
  rcases ten hg with rfl | rfl | rfl | rfl | rfl | rfl | rfl | rfl | rfl | rfl <;> rfl
/-- What was read of so many fields. -/
theorem rmk_fields (k : Int) (L : List Int) (t : T) (hL : ∀ x ∈ L, 0 ≤ x ∧ x ≤ 9) (hn : L.Nodup) : ∀ j, j ≤ L.length → (RMk k L t j).kd = k ∧ (∀ i, i < j → isFd (RMk k L t j) (L.getD i 0).toNat (t.m (i + 1))) ∧ (∀ g, g ≤ 9 → (∀ i, i < j → (L.getD i 0).toNat ≠ g) → zB (RMk k L t j) g = true)
  | 0, _ => ⟨rfl, fun i hi => by omega, fun g hg _ => mz_zero k hg⟩
  | j + 1, hj => by
    obtain ⟨h1, h2, h3⟩ := rmk_fields k L t hL hn j (by omega)
    have hb : ∀ i, i < L.length → 0 ≤ L.getD i 0 ∧ L.getD i 0 ≤ 9 := fun i hi => by
      rw [show L.getD i 0 = L[i] by simp [List.getD, hi]]
      exact hL _ (List.getElem_mem _)
    have hbj := hb j (by omega)
    have hd : ∀ i, i < j → (L.getD i 0).toNat ≠ (L.getD j 0).toNat := fun i hi e => by
      have hi' : i < L.length := by omega
      have hj' : j < L.length := by omega
      have b1 := hb i hi'
      have e2 : L[i] = L[j] := by
        have e3 : L.getD i 0 = L.getD j 0 := by omega
        simpa [List.getD, hi', hj'] using e3
      have := (List.getElem_inj hn).1 e2
      omega
    refine ⟨(set_kd (by omega)).trans h1, fun i hi => ?_, fun g hg hg2 => ?_⟩
    · by_cases e : i = j
      · subst e
        exact set_self (by omega)
      · have hij : i < j := by omega
        have := hb i (by omega)
        exact isFd_eq (set_oth (by omega) (by omega) (hd i hij)) (h2 i hij)
    · exact zB_of (set_oth (by omega) hg (fun e => hg2 j (by omega) e.symm)) (h3 g hg (fun i hi => hg2 i (by omega)))
end Go.Proofs.YtchmiiclogmheaaDoor.C2
