/-
  Way after way, by number: what the plain search does, and the way that it finds.
-/
import Derived.Test.YtpgadcacimjlaaaGreatFCut
import Derived.Test.YtpgadcacimjlaaaGreatFBlMath
namespace Go.Proofs.YtpgadcacimjlaaaGreat.F6
open Go.RowKit
/-- The steps that are done: those out of the first i nodes of the list, and those below c out of the next. -/
def Dc (m : Nat) (E : List Ed) (i c : Nat) (q : List Nat) (k : Nat) : Prop := k < 2 * m ∧ ((∃ i', i' < i ∧ q.getD i' 0 = frm E k) ∨ (q.getD i 0 = frm E k ∧ k < c))
section
variable {n m : Nat} {E : List Ed} {fl : Nat → Int} {s : Nat} {rk : Nat → Int} {q : List Nat} {i c : Nat}
theorem Bf.pass (h : Bf n m E fl 1 s n rk q (Dc m E i c q)) (hp : frm E c = q.getD i 0 → 1 ≤ rm E fl c → rk (tto E c) ≠ -1) : Bf n m E fl 1 s n rk q (Dc m E i (c + 1) q) :=
  h.imp (fun k hk => by
    rcases hk.2 with h1 | ⟨h1, h2⟩
    · exact .inl ⟨hk.1, .inl h1⟩
    · by_cases e : k = c
      · subst e; exact .inr (hp h1.symm)
      · exact .inl ⟨hk.1, .inr ⟨h1, by omega⟩⟩)
theorem getD_snoc {q : List Nat} {v i : Nat} (hi : i < q.length) : (q ++ [v]).getD i 0 = q.getD i 0 := by simp [List.getD, List.getElem?_append_left hi]
theorem Bf.hit (h : Bf n m E fl 1 s n rk q (Dc m E i c q)) (hi : i < q.length) (hc : c < 2 * m) (hf : frm E c = q.getD i 0) (hn : tto E c < n) (hg : 1 ≤ rm E fl c) (hr : rk (tto E c) = -1) :
    Bf n m E fl 1 s n (updI rk (tto E c) (rk (q.getD i 0) + 1)) (q ++ [tto E c]) (Dc m E i (c + 1) (q ++ [tto E c])) := by
  have h1 := h.take hi rfl hc hf rfl hn hg hr (Nat.ne_of_lt hn)
  have hx := (h.node hi).2.1
  refine h1.imp (fun k hk => ?_)
  rcases hk.2 with ⟨i', h2, h3⟩ | ⟨h2, h3⟩
  · rw [getD_snoc (by omega)] at h3
    exact .inl ⟨hk.1, .inl ⟨i', h2, h3⟩⟩
  · rw [getD_snoc hi] at h2
    by_cases e : k = c
    · subst e
      refine .inr (fun _ => ?_)
      rw [updI_self]
      omega
    · exact .inl ⟨hk.1, .inr ⟨h2, by omega⟩⟩
theorem Bf.nextNode (h : Bf n m E fl 1 s n rk q (Dc m E i (2 * m) q)) : Bf n m E fl 1 s n rk q (Dc m E (i + 1) 0 q) :=
  h.imp (fun k hk => by
    rcases hk.2 with ⟨i', h2, h3⟩ | ⟨_, h3⟩
    · by_cases e : i' = i
      · subst e; exact .inl ⟨hk.1, .inr ⟨h3, hk.1⟩⟩
      · exact .inl ⟨hk.1, .inl ⟨i', by omega, h3⟩⟩
    · omega)
theorem Bf.over (h : Bf n m E fl 1 s n rk q (Dc m E q.length 0 q)) (hE : ∀ k, k < 2 * m → frm E k < n) : Rk n m E fl 1 s n rk :=
  h.ended hE (fun k hk hm => by
    obtain ⟨i', hi, he⟩ := List.mem_iff_getElem.1 hm
    exact ⟨hk, .inl ⟨i', hi, by simp [List.getD, List.getElem?_eq_getElem hi, he]⟩⟩)
/-- The step by which each node was reached. -/
def By (n m : Nat) (E : List Ed) (fl : Nat → Int) (s : Nat) (rk by' : Nat → Int) : Prop := ∀ v, v < n → rk v ≠ -1 → v ≠ s → ∃ k, k < 2 * m ∧ by' v = (k : Int) ∧ tto E k = v ∧ 1 ≤ rm E fl k ∧ 0 ≤ rk (frm E k) ∧ rk v = rk (frm E k) + 1
theorem By.hit {by' : Nat → Int} (h : By n m E fl s rk by') {k : Nat} (hk : k < 2 * m) (hg : 1 ≤ rm E fl k) (hf : 0 ≤ rk (frm E k)) (hr : rk (tto E k) = -1) : By n m E fl s (updI rk (tto E k) (rk (frm E k) + 1)) (updI by' (tto E k) k) := by
  intro v hv hne hvs
  have hfv : frm E k ≠ tto E k := fun e => by rw [e] at hf; omega
  by_cases e : v = tto E k
  · subst e
    refine ⟨k, hk, updI_self _ _ _, rfl, hg, ?_, ?_⟩
    · rw [updI_ne _ _ hfv]; exact hf
    · rw [updI_self, updI_ne _ _ hfv]
  · rw [updI_ne _ _ e] at hne
    obtain ⟨j, h1, h2, h3, h4, h5, h6⟩ := h v hv hne hvs
    have hj : frm E j ≠ tto E k := fun e2 => by rw [e2] at h5; omega
    refine ⟨j, h1, by rw [updI_ne _ _ e]; exact h2, h3, h4, ?_, ?_⟩
    · rw [updI_ne _ _ hj]; exact h5
    · rw [updI_ne _ _ hj, updI_ne _ _ e]; exact h6
/-- With another end that was not reached. -/
theorem Rk.other {t u : Nat} (h : Rk n m E fl 1 s t rk) (ht : rk t = -1) : Rk n m E fl 1 s u rk := ⟨h.s0, h.par, h.pos, fun _ => h.closed ht⟩
/-- The way that leads to v; its last step first. -/
inductive Bw (E : List Ed) (rk by' : Nat → Int) (s : Nat) : List Nat → Nat → Prop
  | nil : Bw E rk by' s [] s
  | cons {p : List Nat} {k : Nat} : tto E k ≠ s → by' (tto E k) = (k : Int) → rk (tto E k) = rk (frm E k) + 1 → Bw E rk by' s p (frm E k) → Bw E rk by' s (k :: p) (tto E k)
theorem By.way {by' : Nat → Int} (h : By n m E fl s rk by') (hE : ∀ k, k < 2 * m → frm E k < n ∧ tto E k < n) : ∀ (d v : Nat), v < n → rk v ≠ -1 → rk v ≤ d → 0 ≤ rk v → ∃ p, Bw E rk by' s p v ∧ (∀ k, k ∈ p → k < 2 * m ∧ 1 ≤ rm E fl k ∧ rk (tto E k) ≤ rk v) ∧ p.length ≤ d + 1 := by
  intro d
  induction d with
  | zero =>
    intro v hv hr hd h0
    by_cases e : v = s
    · subst e; exact ⟨[], .nil, (fun k hk => absurd hk (by simp)), by simp⟩
    · obtain ⟨k, _, _, _, _, h5, h6⟩ := h v hv hr e
      omega
  | succ d ih =>
    intro v hv hr hd h0
    by_cases e : v = s
    · subst e; exact ⟨[], .nil, (fun k hk => absurd hk (by simp)), by simp⟩
    · obtain ⟨k, h1, h2, h3, h4, h5, h6⟩ := h v hv hr e
      obtain ⟨p, hp, hq, hl⟩ := ih (frm E k) (hE k h1).1 (by omega) (by omega) h5
      subst h3
      refine ⟨k :: p, .cons e h2 h6 hp, fun j hj => ?_, by simp; omega⟩
      rcases List.mem_cons.1 hj with rfl | hj
      · exact ⟨h1, h4, Int.le_refl _⟩
      · have := hq j hj
        exact ⟨this.1, this.2.1, by omega⟩
end
theorem chn_cons {E : List Ed} {s k v : Nat} {p : List Nat} (h : Chn E (tto E k) p v) (hs : s = frm E k) : Chn E s (k :: p) v := by
  induction h with
  | nil => rw [hs]; exact Chn.snoc (p := []) (by exact Chn.nil)
  | snoc _ ih => exact Chn.snoc (p := k :: _) ih
theorem Bw.chn {E : List Ed} {rk by' : Nat → Int} {s : Nat} {p : List Nat} {v : Nat} (h : Bw E rk by' s p v) : Chn E s p.reverse v := by
  induction h with
  | nil => exact Chn.nil
  | cons _ _ _ _ ih => rw [List.reverse_cons]; exact Chn.snoc ih
theorem Bw.ranks {E : List Ed} {rk by' : Nat → Int} {s : Nat} {p : List Nat} {v : Nat} (h : Bw E rk by' s p v) : ∀ k, k ∈ p → rk (tto E k) = rk (frm E k) + 1 ∧ rk (tto E k) ≤ rk v := by
  induction h with
  | nil => intro k hk; cases hk
  | cons _ _ h3 _ ih =>
    intro j hj
    rcases List.mem_cons.1 hj with rfl | hj
    · exact ⟨h3, Int.le_refl _⟩
    · have := ih j hj
      exact ⟨this.1, by omega⟩
theorem Bw.once {E : List Ed} {rk by' : Nat → Int} {s : Nat} {p : List Nat} {v : Nat} (h : Bw E rk by' s p v) : Once p := by
  induction h with
  | nil => exact trivial
  | @cons p k _ _ h3 hb ih =>
    refine ⟨fun j hj e => ?_, ih⟩
    have h4 := hb.ranks j hj
    rcases half_same E e with h5 | ⟨h5, h6⟩
    · rw [h5] at h4; omega
    · rw [h5, h6] at h4; omega
theorem once_rev : ∀ {p : List Nat}, Once p → Once p.reverse := by
  have key : ∀ (p : List Nat) (k : Nat), Once p → (∀ j, j ∈ p → k / 2 ≠ j / 2) → Once (p ++ [k]) := by
    intro p
    induction p with
    | nil => intro k _ _; exact ⟨(fun j hj => absurd hj (by simp)), trivial⟩
    | cons x p ih =>
      intro k h1 h2
      refine ⟨fun j hj => ?_, ih k h1.2 (fun j hj => h2 j (by simp [hj]))⟩
      rcases List.mem_append.1 hj with h3 | h3
      · exact h1.1 j h3
      · have : j = k := by simpa using h3
        subst this
        exact h2 x (by simp)
  intro p
  induction p with
  | nil => intro _; exact trivial
  | cons k p ih =>
    intro h
    rw [List.reverse_cons]
    exact key _ _ (ih h.2) (fun j hj => fun e => h.1 j (by simpa using hj) e.symm)
theorem pushAll_at {fl : Nat → Int} {x : Int} : ∀ {p : List Nat}, Once p → ∀ k, k ∈ p → pushAll fl x p (k / 2) = push1 fl k x (k / 2)
  | [], _, k, h => by cases h
  | j :: p, ho, k, h => by
    simp only [pushAll]
    by_cases e : k / 2 = j / 2
    · have hk : k = j := by
        rcases List.mem_cons.1 h with h1 | h1
        · exact h1
        · exact absurd e (ho.1 k h1)
      subst hk
      unfold push1
      rw [if_pos rfl, if_pos rfl, pushAll_other ho.1]
    · have hm : k ∈ p := by
        rcases List.mem_cons.1 h with h1 | h1
        · exact absurd (by rw [h1]) e
        · exact h1
      unfold push1
      rw [if_neg e, pushAll_at ho.2 k hm]
      rfl
end Go.Proofs.YtpgadcacimjlaaaGreat.F6
