/-
  Leaders, and what labels tell.
-/
import Derived.Test.YtpmjbeiclmllmaaGreatTPartsC
namespace Go.Proofs.YtpmjbeiclmllmaaGreat.T3
open Go.RowKit
/-- A leader leads himself, and follows none that is greater. -/
structure RT (R : Nat → Nat) : Prop where
  rle : ∀ v, R v ≤ v
  rr : ∀ v, R (R v) = R v
theorem RT.mg {R : Nat → Nat} (h : RT R) (a b : Nat) : RT (mg R a b) := by
  have ra := h.rr a
  have rb := h.rr b
  have hm : R (min (R a) (R b)) = min (R a) (R b) := by
    rcases Nat.le_total (R a) (R b) with e | e
    · rw [Nat.min_eq_left e]; exact ra
    · rw [Nat.min_eq_right e]; exact rb
  have hle : min (R a) (R b) ≤ max (R a) (R b) := by omega
  unfold Go.Proofs.YtpmjbeiclmllmaaGreat.T3.mg
  generalize min (R a) (R b) = m at *
  generalize max (R a) (R b) = M at *
  refine ⟨fun v => ?_, fun v => ?_⟩
  · have := h.rle v
    unfold mgW
    split <;> omega
  · by_cases e : R v = M
    · rw [show mgW R M m v = m from if_pos e]
      unfold mgW
      rw [hm]; split <;> rfl
    · rw [show mgW R M m v = R v from if_neg e]
      unfold mgW
      rw [h.rr v, if_neg e]
theorem foldl_RT : ∀ (l : List A) (R : Nat → Nat), RT R → RT (l.foldl (fun R x => mg R x.f.toNat x.t.toNat) R)
  | [], _, h => h
  | _ :: r, _, h => foldl_RT r _ (h.mg _ _)
theorem lead_RT (l : List A) : RT (lead l) := foldl_RT l id ⟨fun _ => Nat.le_refl _, fun _ => rfl⟩
theorem foldl_eq : ∀ (l : List A) (R : Nat → Nat) (u v : Nat), R u = R v → l.foldl (fun R x => mg R x.f.toNat x.t.toNat) R u = l.foldl (fun R x => mg R x.f.toNat x.t.toNat) R v
  | [], _, _, _, h => h
  | x :: r, R, u, v, h => foldl_eq r _ u v (by simp only [mg, mgW, h])
theorem mg_joins (R : Nat → Nat) (a b : Nat) : mg R a b a = mg R a b b := by
  unfold mg mgW
  rcases Nat.lt_trichotomy (R a) (R b) with e | e | e
  · rw [if_neg (by omega), if_pos (by omega)]; omega
  · rw [e]
  · rw [if_pos (by omega), if_neg (by omega)]; omega
theorem foldl_arc : ∀ (l : List A) (R : Nat → Nat) (x : A), x ∈ l → l.foldl (fun R x => mg R x.f.toNat x.t.toNat) R x.f.toNat = l.foldl (fun R x => mg R x.f.toNat x.t.toNat) R x.t.toNat
  | y :: r, R, x, h => by
    rcases List.mem_cons.1 h with rfl | h
    · exact foldl_eq r _ _ _ (mg_joins R _ _)
    · exact foldl_arc r _ x h
theorem lead_arc {l : List A} {x : A} (h : x ∈ l) : lead l x.f.toNat = lead l x.t.toNat := foldl_arc l id x h
theorem foldl_const {S : Nat → Nat} : ∀ (l : List A) (R : Nat → Nat), (∀ x ∈ l, S x.f.toNat = S x.t.toNat) → (∀ v, S (R v) = S v) → ∀ v, S (l.foldl (fun R x => mg R x.f.toNat x.t.toNat) R v) = S v
  | [], _, _, h => h
  | x :: r, R, hl, h => foldl_const r _ (fun y hy => hl y (List.mem_cons_of_mem _ hy)) (fun v => by
      have e := hl x List.mem_cons_self
      have ea := h x.f.toNat
      have eb := h x.t.toNat
      show S (if R v = max (R x.f.toNat) (R x.t.toNat) then min (R x.f.toNat) (R x.t.toNat) else R v) = S v
      split
      · rename_i hv
        rw [← h v, hv]
        rcases Nat.le_total (R x.f.toNat) (R x.t.toNat) with k | k
        · rw [Nat.min_eq_left k, Nat.max_eq_right k, ea, eb, e]
        · rw [Nat.min_eq_right k, Nat.max_eq_left k, ea, eb, e]
      · exact h v)
/-- What no arc leads out of is the same at the leader. -/
theorem lead_const {S : Nat → Nat} {l : List A} (hl : ∀ x ∈ l, S x.f.toNat = S x.t.toNat) (v : Nat) : S (lead l v) = S v := foldl_const l id hl (fun _ => rfl) v
theorem cnt_mono (R : Nat → Nat) {m n : Nat} (h : m ≤ n) : cnt R m ≤ cnt R n := by
  induction n with
  | zero => have : m = 0 := by omega
            subst this; exact Nat.le_refl _
  | succ n ih =>
    by_cases e : m = n + 1
    · subst e; exact Nat.le_refl _
    · have := ih (by omega)
      show _ ≤ (if R n = n then cnt R n + 1 else cnt R n)
      split <;> omega
theorem cnt_root {R : Nat → Nat} {r n : Nat} (hr : R r = r) (h : r < n) : cnt R r < cnt R n := by
  have h1 : cnt R (r + 1) = cnt R r + 1 := by rw [cnt, if_pos hr]
  have := cnt_mono R (show r + 1 ≤ n by omega)
  omega
theorem cnt_inj {R : Nat → Nat} {r s : Nat} (hr : R r = r) (hs : R s = s) (h : cnt R r = cnt R s) : r = s := by
  rcases Nat.lt_trichotomy r s with e | e | e
  · have := cnt_root hr e; omega
  · exact e
  · have := cnt_root hs e; omega
theorem cnt_find {R : Nat → Nat} : ∀ {n p : Nat}, p < cnt R n → ∃ v, v < n ∧ R v = v ∧ cnt R v = p
  | 0, _, h => absurd h (by simp [cnt])
  | n + 1, p, h => by
    by_cases hn : R n = n
    · rw [cnt, if_pos hn] at h
      by_cases e : p = cnt R n
      · exact ⟨n, by omega, hn, e.symm⟩
      · obtain ⟨v, h1, h2⟩ := cnt_find (R := R) (n := n) (p := p) (by omega)
        exact ⟨v, by omega, h2⟩
    · rw [cnt, if_neg hn] at h
      obtain ⟨v, h1, h2⟩ := cnt_find h
      exact ⟨v, by omega, h2⟩
/-- Labels are tidy. -/
theorem lab_step {R : Nat → Nat} (h : RT R) (k : Nat) : (lab R k = cnt R k ∧ cnt R (k + 1) = cnt R k + 1) ∨ (lab R k < cnt R k ∧ cnt R (k + 1) = cnt R k) := by
  by_cases e : R k = k
  · exact Or.inl ⟨by unfold lab; rw [e], by rw [cnt, if_pos e]⟩
  · have := h.rle k
    exact Or.inr ⟨by unfold lab; exact cnt_root (h.rr k) (by omega), by rw [cnt, if_neg e]⟩
theorem lab_lead {R : Nat → Nat} (h : RT R) {u v : Nat} (e : lab R u = lab R v) : R u = R v := cnt_inj (h.rr u) (h.rr v) e
theorem lab_arc {l : List A} {x : A} (h : x ∈ l) : lab (lead l) x.f.toNat = lab (lead l) x.t.toNat := by unfold lab; rw [lead_arc h]
theorem lead_le {l m : List A} (h : ∀ x ∈ l, lead m x.f.toNat = lead m x.t.toNat) (v : Nat) : lead m v ≤ lead l v := by
  rw [← lead_const h v]
  exact (lead_RT m).rle _
theorem lead_one {l m : List A} (h1 : ∀ x ∈ l, lead m x.f.toNat = lead m x.t.toNat) (h2 : ∀ x ∈ m, lead l x.f.toNat = lead l x.t.toNat) : lead l = lead m := by
  funext v
  exact Nat.le_antisymm (lead_le h2 v) (lead_le h1 v)
end Go.Proofs.YtpmjbeiclmllmaaGreat.T3
