/-
  Mathematics: the timers in the order in which they come due, and in the order in which they were set.
-/
import Derived.Test.YtfhlfklgngpklaaM1
namespace Go.Proofs.Ytfhlfklgngpklaa
open Go.RowKit Go.Maps
/-- Timers that are put in one after another. -/
def srt (l : List Tm) : List Tm := l.foldl (fun s t => insT t s) []
theorem srt_more (l : List Tm) (t : Tm) : srt (l ++ [t]) = insT t (srt l) := by unfold srt; rw [List.foldl_append]; rfl
theorem insT_cons (t u : Tm) (r : List Tm) : insT t (u :: r) = if ahT t u = true then t :: u :: r else u :: insT t r := by
  unfold insT
  cases h : ahT t u <;> simp [h]
theorem rev_ind {P : List Tm → Prop} (h0 : P []) (h1 : ∀ l t, P l → P (l ++ [t])) : ∀ l, P l := by
  intro l
  have : ∀ n, ∀ l : List Tm, l.length = n → P l := by
    intro n
    induction n with
    | zero =>
      intro l hl
      rw [List.eq_nil_of_length_eq_zero hl]
      exact h0
    | succ n ih =>
      intro l hl
      have e : l = l.take n ++ [l[n]] := by
        rw [← List.take_succ_eq_append_getElem (by omega)]
        exact (List.take_of_length_le (by omega)).symm
      rw [e]
      exact h1 _ _ (ih _ (by rw [List.length_take]; omega))
  exact this _ l rfl
theorem srt_rising : ∀ l, Rising (srt l) := rev_ind List.Pairwise.nil (fun l t h => by rw [srt_more]; exact insT_rising h)
theorem mem_insT (t u : Tm) : ∀ l, u ∈ insT t l ↔ u = t ∨ u ∈ l
  | [] => by simp [insT]
  | v :: r => by
    rw [insT_cons]
    have := mem_insT t u r
    split
    · simp
    · simp only [List.mem_cons, this]
      constructor
      · rintro (h | h | h)
        · exact Or.inr (Or.inl h)
        · exact Or.inl h
        · exact Or.inr (Or.inr h)
      · rintro (h | h | h)
        · exact Or.inr (Or.inl h)
        · exact Or.inl h
        · exact Or.inr (Or.inr h)
theorem mem_srt (u : Tm) : ∀ l, u ∈ srt l ↔ u ∈ l := rev_ind (by simp [srt]) (fun l t h => by
  rw [srt_more, mem_insT, h, List.mem_append, List.mem_singleton]
  exact or_comm)
theorem srt_len : ∀ l, (srt l).length = l.length := rev_ind (by simp [srt]) (fun l t h => by rw [srt_more, insT_len, h, List.length_append]; rfl)
theorem ah_then {t u v : Tm} (h : ahT t u = true) (h2 : ahT v u = false) : ahT t v = true := by
  unfold ahT at *
  by_cases e1 : t.at_ = u.at_
  · rw [if_pos e1] at h
    by_cases e2 : v.at_ = u.at_
    · rw [if_pos e2] at h2
      rw [if_pos (by omega)]
      simp only [decide_eq_true_eq, decide_eq_false_iff_not] at *
      omega
    · rw [if_neg e2] at h2
      simp only [decide_eq_true_eq, decide_eq_false_iff_not] at *
      rw [if_neg (by omega)]
      simp only [decide_eq_true_eq]
      omega
  · rw [if_neg e1] at h
    by_cases e2 : v.at_ = u.at_
    · simp only [decide_eq_true_eq] at *
      rw [if_neg (by omega)]
      simp only [decide_eq_true_eq]
      omega
    · rw [if_neg e2] at h2
      simp only [decide_eq_true_eq, decide_eq_false_iff_not] at *
      rw [if_neg (by omega)]
      simp only [decide_eq_true_eq]
      omega
/-- What is kept keeps its order. -/
theorem insT_filter (f : Tm → Bool) (t : Tm) : ∀ (l : List Tm), Rising l → (insT t l).filter f = if f t = true then insT t (l.filter f) else l.filter f
  | [], _ => by by_cases h : f t = true <;> simp [insT, h]
  | u :: r, hr => by
    obtain ⟨h1, h2⟩ := List.pairwise_cons.1 hr
    have ih := insT_filter f t r h2
    rw [insT_cons]
    by_cases ha : ahT t u = true
    · rw [if_pos ha]
      have hd : ∀ m : List Tm, (∀ v ∈ m, ahT t v = true) → insT t m = t :: m := fun m hm => by
        cases m with
        | nil => rfl
        | cons v s => rw [insT_cons, if_pos (hm v (by simp))]
      by_cases hf : f t = true
      · rw [if_pos hf, List.filter_cons, if_pos hf, hd _ (fun v hv => ?_)]
        have hv' := (List.mem_filter.1 hv).1
        rcases List.mem_cons.1 hv' with rfl | hv'
        · exact ha
        · exact ah_then ha (h1 v hv')
      · rw [if_neg hf, List.filter_cons, if_neg hf]
    · rw [if_neg ha, List.filter_cons, List.filter_cons, ih]
      by_cases hu : f u = true
      · rw [if_pos hu, if_pos hu]
        by_cases hf : f t = true
        · rw [if_pos hf, if_pos hf, insT_cons, if_neg ha]
        · rw [if_neg hf, if_neg hf]
      · rw [if_neg hu, if_neg hu]
theorem srt_filter (f : Tm → Bool) : ∀ l, (srt l).filter f = srt (l.filter f) := rev_ind (by simp [srt]) (fun l t h => by
  rw [srt_more, insT_filter f t _ (srt_rising l), h, List.filter_append]
  by_cases hf : f t = true
  · simp [hf, srt_more]
  · simp [hf])
/-- Timers of one node and one time are in the order in which they were set. -/
theorem srt_same (a c : Int) : ∀ l : List Tm, (∀ t ∈ l, t.nd = a ∧ t.at_ = c) → srt l = l := rev_ind (fun _ => rfl) (fun l t h hm => by
  rw [srt_more, h (fun u hu => hm u (by simp [hu]))]
  have ht := hm t (by simp)
  have : ∀ m : List Tm, (∀ u ∈ m, u.nd = a ∧ u.at_ = c) → insT t m = m ++ [t] := fun m hm => by
    induction m with
    | nil => rfl
    | cons u r ih =>
      have hu := hm u (by simp)
      rw [insT_cons, if_neg (by unfold ahT; rw [if_pos (by rw [ht.2, hu.2])]; simp [ht.1, hu.1]), ih (fun v hv => hm v (by simp [hv]))]
      rfl
  exact this l (fun u hu => hm u (by simp [hu])))
/-- Timers of one time by their nodes. -/
theorem by_nodes (c : Int) : ∀ (s : List Tm), Rising s → (∀ t ∈ s, t.at_ = c) → ∀ n : Nat, s.filter (fun t => decide (t.nd < ((n + 1 : Nat) : Int))) = s.filter (fun t => decide (t.nd < (n : Int))) ++ s.filter (fun t => decide (t.nd = (n : Int)))
  | [], _, _, n => rfl
  | x :: r, hr, hc, n => by
    obtain ⟨h1, h2⟩ := List.pairwise_cons.1 hr
    have ih := by_nodes c r h2 (fun t ht => hc t (by simp [ht])) n
    have hx := hc x (by simp)
    have hge : ∀ t ∈ r, x.nd ≤ t.nd := fun t ht => by
      have h3 := h1 t ht
      have h4 := hc t (by simp [ht])
      unfold ahT at h3
      rw [if_pos (by rw [h4, hx])] at h3
      simp only [decide_eq_false_iff_not] at h3
      omega
    by_cases hlt : x.nd < (n : Int)
    · rw [List.filter_cons, List.filter_cons, List.filter_cons, if_pos (by simp only [decide_eq_true_eq]; omega), if_pos (by simp only [decide_eq_true_eq]; omega), if_neg (by simp only [decide_eq_true_eq]; omega), ih]
      rfl
    · have h0 : r.filter (fun t => decide (t.nd < (n : Int))) = [] := List.filter_eq_nil_iff.2 (fun t ht => by
        have := hge t ht
        simp only [decide_eq_true_eq]
        omega)
      by_cases he : x.nd = (n : Int)
      · rw [List.filter_cons, List.filter_cons, List.filter_cons, if_pos (by simp only [decide_eq_true_eq]; omega), if_neg (by simp only [decide_eq_true_eq]; omega), if_pos (by simp only [decide_eq_true_eq]; omega), ih, h0]
        rfl
      · rw [List.filter_cons, List.filter_cons, List.filter_cons, if_neg (by simp only [decide_eq_true_eq]; omega), if_neg (by simp only [decide_eq_true_eq]; omega), if_neg (by simp only [decide_eq_true_eq]; omega), ih]
theorem due_nodes (l : List Tm) (c : Int) : ∀ n : Nat, (∀ t ∈ l, 0 ≤ t.nd) → ((srt l).filter (fun t => decide (t.at_ = c))).filter (fun t => decide (t.nd < (n : Int))) = dueN l c n
  | 0, h => List.filter_eq_nil_iff.2 (fun t ht => by
      have := h t ((mem_srt t l).1 (List.mem_filter.1 ht).1)
      simp only [decide_eq_true_eq]
      omega)
  | n + 1, h => by
    have hs : Rising ((srt l).filter (fun t => decide (t.at_ = c))) := (srt_rising l).filter _
    rw [by_nodes c _ hs (fun t ht => by have := (List.mem_filter.1 ht).2; simpa using this) n, due_nodes l c n h]
    show _ = dueN l c n ++ l.filter (atB (n : Int) c)
    congr 1
    rw [List.filter_filter]
    have e : (srt l).filter (fun t => decide (t.nd = (n : Int)) && decide (t.at_ = c)) = (srt l).filter (atB (n : Int) c) := rfl
    rw [e, srt_filter]
    exact srt_same (n : Int) c _ (fun t ht => by
      have := (List.mem_filter.1 ht).2
      unfold atB at this
      simpa using this)
theorem while_filter (c : Int) : ∀ (s : List Tm), Rising s → (∀ t ∈ s, c ≤ t.at_) → s.takeWhile (fun t => decide (t.at_ = c)) = s.filter (fun t => decide (t.at_ = c)) ∧ s.dropWhile (fun t => decide (t.at_ = c)) = s.filter (notB c)
  | [], _, _ => ⟨rfl, rfl⟩
  | x :: r, hr, hc => by
    obtain ⟨h1, h2⟩ := List.pairwise_cons.1 hr
    have hx := hc x (by simp)
    by_cases he : x.at_ = c
    · obtain ⟨e1, e2⟩ := while_filter c r h2 (fun t ht => hc t (by simp [ht]))
      constructor
      · simp [he, e1]
      · simp [he, e2, notB]
    · have hgt : ∀ t ∈ r, c < t.at_ := fun t ht => by
        have h3 := h1 t ht
        unfold ahT at h3
        split at h3
        · omega
        · simp only [decide_eq_false_iff_not] at h3
          omega
      constructor
      · have e : r.filter (fun t => decide (t.at_ = c)) = [] := List.filter_eq_nil_iff.2 (fun t ht => by have := hgt t ht; simp only [decide_eq_true_eq]; omega)
        simp [he, e]
      · have e : r.filter (notB c) = r := List.filter_eq_self.2 (fun t ht => by have := hgt t ht; simp only [notB, decide_eq_true_eq]; omega)
        simp [he, notB, e]
/-- The timers of both nets are alike. -/
structure RelT (S : NS) (R : RS) : Prop where
  tm : S.tm = srt R.tm
  now : R.now = S.now
  lat : ∀ t ∈ R.tm, S.now < t.at_ ∧ 0 ≤ t.nd ∧ t.nd < S.N
section
variable {S : NS} {R : RS}
theorem RelT.tick (h : RelT S R) (hN : R.up.length = S.N) : rkE R = (if 1073741824 ≤ S.now then 1 else 0) ∧ (S.now < 1073741824 → rkL R = S.tm.takeWhile (due S) ∧ RelT ((S.clocked (S.now + 1)).timed (S.tm.dropWhile (due S))) (rkS R)) := by
  refine ⟨by unfold rkE; rw [h.now], fun hn => ?_⟩
  have hc : ∀ t ∈ S.tm, S.now + 1 ≤ t.at_ := fun t ht => by
    rw [h.tm] at ht
    have := h.lat t ((mem_srt t _).1 ht)
    omega
  have hr : Rising S.tm := by rw [h.tm]; exact srt_rising _
  have hw := while_filter (S.now + 1) S.tm hr hc
  have ed : due S = fun t => decide (t.at_ = S.now + 1) := rfl
  rw [ed, hw.1, hw.2]
  constructor
  · unfold rkL
    rw [if_neg (by rw [h.now]; omega), h.now, hN, ← due_nodes R.tm (S.now + 1) S.N (fun t ht => (h.lat t ht).2.1), ← h.tm]
    refine List.filter_eq_self.2 (fun t ht => ?_)
    have h1 := (List.mem_filter.1 ht).1
    rw [h.tm] at h1
    have := (h.lat t ((mem_srt t _).1 h1)).2.2
    simpa using this
  · unfold rkS
    rw [if_neg (by rw [h.now]; omega), h.now]
    refine ⟨?_, rfl, fun t ht => ?_⟩
    · show S.tm.filter (notB (S.now + 1)) = srt (R.tm.filter (notB (S.now + 1)))
      rw [h.tm, srt_filter]
    · obtain ⟨h1, h2⟩ := List.mem_filter.1 ht
      have h3 := h.lat t h1
      unfold notB at h2
      simp only [decide_eq_true_eq] at h2
      exact ⟨by show S.now + 1 < t.at_; omega, h3.2⟩
theorem RelT.fall (h : RelT S R) (a : Int) (S' : NS) (R' : RS) (e1 : S'.tm = flt a S.tm) (e2 : S'.now = S.now) (e3 : S'.N = S.N) (e4 : R'.tm = flt a R.tm) (e5 : R'.now = R.now) : RelT S' R' := by
  refine ⟨?_, by rw [e5, e2, h.now], fun t ht => ?_⟩
  · rw [e1, e4, h.tm]
    exact srt_filter _ _
  · rw [e4] at ht
    rw [e2, e3]
    exact h.lat t (List.mem_filter.1 ht).1
theorem RelT.set (h : RelT S R) (t : Tm) (h1 : S.now < t.at_) (h2 : 0 ≤ t.nd) (h3 : t.nd < S.N) : RelT (S.timed (insT t S.tm)) (R.late t) := by
  refine ⟨?_, h.now, fun u hu => ?_⟩
  · show insT t S.tm = srt (R.tm ++ [t])
    rw [srt_more, h.tm]
  · rcases List.mem_append.1 hu with hu | hu
    · exact h.lat u hu
    · simp at hu
      subst hu
      exact ⟨h1, h2, h3⟩
theorem RelT.len (h : RelT S R) : R.tm.length = S.tm.length := by rw [h.tm, srt_len]
end
end Go.Proofs.Ytfhlfklgngpklaa
