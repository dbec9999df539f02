/-
  Single vertices put together are the parts: the mathematics.
-/
import Derived.Test.YtchfccbneedejaaZCD
namespace Go.Proofs.Ytchfccbneedejaa
open Go.RowKit
theorem cnt_congr {R R' : Nat → Nat} : ∀ k, (∀ w, w < k → R w = R' w) → T3.cnt R k = T3.cnt R' k
  | 0, _ => rfl
  | k + 1, h => by
    rw [T3.cnt, T3.cnt, h k (by omega), cnt_congr k (fun w hw => h w (by omega))]
theorem labs_congr {R R' : Nat → Nat} {n : Nat} (hle : ∀ v, R v ≤ v) (h : ∀ v, v < n → R v = R' v) : T3.labs R n = T3.labs R' n := by
  unfold T3.labs
  refine List.map_congr_left (fun v hv => ?_)
  have hv := List.mem_range.1 hv
  unfold T3.lab
  rw [← h v hv]
  exact cnt_congr _ (fun w hw => h w (by have := hle v; omega))
theorem cnt_self {R : Nat → Nat} : ∀ k, (∀ w, w < k → R w = w) → T3.cnt R k = k
  | 0, _ => rfl
  | k + 1, h => by rw [T3.cnt, if_pos (h k (by omega)), cnt_self k (fun w hw => h w (by omega))]
/-- Labels that are all unlike are told as single ones. -/
theorem tdL_dist {T : List Nat} (h : ∀ u v, u < T.length → v < T.length → T.getD u 0 = T.getD v 0 → u = v) : tdL T = List.range T.length := by
  have hid : ∀ v, v < T.length → ldI (ints T) v = v := fun v hv => by
    have h1 := ldI_le (ints T) v
    have h2 := ldI_at (ints T) v
    rw [ints_at (by omega), ints_at hv] at h2
    exact h _ _ (by omega) hv (by omega)
  unfold tdL T3.labs
  have : (List.range T.length).map (T3.lab (ldI (ints T))) = (List.range T.length).map id := List.map_congr_left (fun v hv => by
    have hv := List.mem_range.1 hv
    unfold T3.lab
    rw [hid v hv]
    exact cnt_self v (fun w hw => hid w (by omega)))
  rw [this, List.map_id]
theorem range_getD {n v : Nat} (h : v < n) : (List.range n).getD v 0 = v := by simp [List.getD, h]
theorem range_tidy (n : Nat) : tdL (List.range n) = List.range n := by
  have h := tdL_dist (T := List.range n) (fun u v hu hv e => by
    rw [List.length_range] at hu hv
    rw [range_getD hu, range_getD hv] at e
    exact e)
  rw [List.length_range] at h
  exact h
theorem range_right (n : Nat) : tdy (ints (List.range n)) 0 = true := by
  have h := tdL_right (List.range n)
  rw [range_tidy] at h
  exact h
theorem range_und {n B : Nat} (h : 1 ≤ B) : Und B (List.range n) := fun x => by
  have := List.nodup_iff_count.1 (List.nodup_range (n := n)) x
  omega
theorem single_of {T : List Nat} (hT : tdy (ints T) 0 = true) (hU : Und 1 T) : T = List.range T.length := by
  rw [← tdL_dist (T := T) (fun u v hu hv e => ?_), tdL_self hT]
  rcases Nat.lt_trichotomy u v with h | h | h
  · exact absurd (hU (T.getD u 0)) (by
      have hc := count_filter T (T.getD u 0)
      have := List.Nodup.length_le_of_subset (l₁ := [u, v]) (l₂ := (List.range T.length).filter (fun w => decide (T.getD w 0 = T.getD u 0))) (by simp; omega) (fun w hw => by
        refine List.mem_filter.2 ⟨List.mem_range.2 ?_, ?_⟩
        · rcases List.mem_cons.1 hw with rfl | hw
          · exact hu
          · rw [List.mem_singleton] at hw; rw [hw]; exact hv
        · rw [decide_eq_true_eq]
          rcases List.mem_cons.1 hw with rfl | hw
          · rfl
          · rw [List.mem_singleton] at hw; rw [hw]; exact e.symm)
      simp only [List.length_cons, List.length_nil] at this
      omega)
  · exact h
  · exact absurd (hU (T.getD u 0)) (by
      have hc := count_filter T (T.getD u 0)
      have := List.Nodup.length_le_of_subset (l₁ := [u, v]) (l₂ := (List.range T.length).filter (fun w => decide (T.getD w 0 = T.getD u 0))) (by simp; omega) (fun w hw => by
        refine List.mem_filter.2 ⟨List.mem_range.2 ?_, ?_⟩
        · rcases List.mem_cons.1 hw with rfl | hw
          · exact hu
          · rw [List.mem_singleton] at hw; rw [hw]; exact hv
        · rw [decide_eq_true_eq]
          rcases List.mem_cons.1 hw with rfl | hw
          · rfl
          · rw [List.mem_singleton] at hw; rw [hw]; exact e.symm)
      simp only [List.length_cons, List.length_nil] at this
      omega)
/-- Labels are alike only where a leader is. -/
theorem Jn.lead {P : List Pr} {B : Nat} {L E : List Nat} {R : Nat → Nat} (h : Jn P B L E) (hP : PIn P L.length) (hR : ∀ p, p ∈ P → R p.a = R p.b) : (∀ u v, u < L.length → v < L.length → L.getD u 0 = L.getD v 0 → R u = R v) → ∀ u v, u < L.length → v < L.length → E.getD u 0 = E.getD v 0 → R u = R v := by
  induction h with
  | stop _ => exact id
  | @step L E a b h1 _ ih =>
    intro h2 u v hu hv
    have ih2 := ih (by rw [mrg_len]; exact hP)
    rw [mrg_len] at ih2
    refine ih2 (fun s t hs ht he => ?_) u v hu hv
    rw [mrg_getD hs, mrg_getD ht] at he
    obtain ⟨x, y, hx, hy, ex, ey, hxy⟩ := hit_ends hP h1.1.2.1
    have hRxy : R x = R y := by
      rcases hxy with h | h
      · exact hR _ h
      · exact (hR _ h).symm
    by_cases e1 : L.getD s 0 = b
    · rw [if_pos e1] at he
      have r1 : R s = R y := h2 s y hs hy (e1.trans ey.symm)
      by_cases e2 : L.getD t 0 = b
      · exact h2 s t hs ht (e1.trans e2.symm)
      · rw [if_neg e2] at he
        have r2 : R t = R x := h2 t x ht hx (he.symm.trans ex.symm)
        omega
    · rw [if_neg e1] at he
      by_cases e2 : L.getD t 0 = b
      · rw [if_pos e2] at he
        have r1 : R s = R x := h2 s x hs hx (he.trans ex.symm)
        have r2 : R t = R y := h2 t y ht hy (e2.trans ey.symm)
        omega
      · rw [if_neg e2] at he
        exact h2 s t hs ht he
/-- Single vertices under a bound as great as the graph are put together to its parts. -/
theorem parts_join {n : Nat} {l : List A} {F : List Nat} (hC : chkE n l = 0) (h : Jn (prl l) n (List.range n) F) : tdL F = T3.labs (T3.lead (l.map toT)) n := by
  obtain ⟨_, _, _, hoa⟩ := chk_zero hC
  have hPI := prl_in hC
  have hFl : F.length = n := h.len.trans List.length_range
  have hRT := T3.lead_RT (l.map toT)
  have hpo : ∀ x, x ∈ l → 0 ≤ x.f ∧ 0 ≤ x.t := fun x hx => ⟨(hoa x hx).1.1, (hoa x hx).2.1⟩
  have hpair : ∀ p, p ∈ prl l → T3.lead (l.map toT) p.a = T3.lead (l.map toT) p.b := fun p hp => by
    obtain ⟨_, h2⟩ := (prl_mem hpo).1 hp
    unfold nr at h2
    rw [List.any_eq_true] at h2
    obtain ⟨x, hx, h3⟩ := h2
    have h4 := T3.lead_arc (List.mem_map_of_mem (f := toT) hx)
    have e1 : (toT x).f = x.f := rfl
    have e2 : (toT x).t = x.t := rfl
    rw [e1, e2] at h4
    simp only [Bool.or_eq_true, Bool.and_eq_true, beq_iff_eq] at h3
    rcases h3 with ⟨e3, e4⟩ | ⟨e3, e4⟩
    · rw [e3, e4] at h4; simpa using h4
    · rw [e3, e4] at h4; simpa using h4.symm
  have hto : ∀ u v, u < n → v < n → F.getD u 0 = F.getD v 0 → T3.lead (l.map toT) u = T3.lead (l.map toT) v := fun u v hu hv he =>
    h.lead (by rw [List.length_range]; exact hPI) hpair (fun s t hs ht e => by
      rw [List.length_range] at hs ht
      rw [range_getD hs, range_getD ht] at e
      rw [e]) u v (by rw [List.length_range]; exact hu) (by rw [List.length_range]; exact hv) he
  have hFp : ∀ p, p ∈ prl l → F.getD p.a 0 = F.getD p.b 0 := fun p hp => by
    refine Decidable.byContradiction (fun hne => ?_)
    have hb : 0 < bw (prl l) F (F.getD p.a 0) (F.getD p.b 0) := bw_pos.2 ⟨p, hp, hit_pair p⟩
    have hc := count_two (L := F) hne
    rw [hFl] at hc
    rcases Nat.lt_or_ge (F.getD p.a 0) (F.getD p.b 0) with e | e
    · exact h.none _ _ ⟨e, hb, hc⟩
    · exact h.none (F.getD p.b 0) (F.getD p.a 0) ⟨by omega, by rw [bw_comm]; exact hb, by omega⟩
  have hFa : ∀ x ∈ l.map toT, F.getD x.f.toNat 0 = F.getD x.t.toNat 0 := fun y hy => by
    obtain ⟨x, hx, rfl⟩ := List.mem_map.1 hy
    have h0 := hpo x hx
    show F.getD x.f.toNat 0 = F.getD x.t.toNat 0
    rcases Nat.lt_trichotomy x.f.toNat x.t.toNat with e | e | e
    · refine hFp ⟨x.f.toNat, x.t.toNat⟩ ((prl_mem hpo).2 ⟨e, ?_⟩)
      unfold nr
      rw [List.any_eq_true]
      refine ⟨x, hx, ?_⟩
      simp only [Bool.or_eq_true, Bool.and_eq_true, beq_iff_eq]
      left; constructor <;> omega
    · rw [e]
    · refine (hFp ⟨x.t.toNat, x.f.toNat⟩ ((prl_mem hpo).2 ⟨e, ?_⟩)).symm
      unfold nr
      rw [List.any_eq_true]
      refine ⟨x, hx, ?_⟩
      simp only [Bool.or_eq_true, Bool.and_eq_true, beq_iff_eq]
      right; constructor <;> omega
  have hFR : ∀ v, F.getD (T3.lead (l.map toT) v) 0 = F.getD v 0 := fun v => T3.lead_const (S := fun v => F.getD v 0) hFa v
  unfold tdL
  rw [hFl]
  refine labs_congr (ldI_le (ints F)) (fun v hv => ?_)
  have hle := hRT.rle v
  have hll := ldI_le (ints F) v
  have a1 : T3.lead (l.map toT) v ≤ ldI (ints F) v := by
    have e := ldI_at (ints F) v
    rw [ints_at (by omega), ints_at (by omega)] at e
    have := hto (ldI (ints F) v) v (by omega) hv (by omega)
    rw [← this]
    exact hRT.rle _
  refine Nat.le_antisymm (Nat.le_of_not_lt (fun hlt => ?_)) a1
  have := ldI_min hlt
  rw [ints_at (by omega), ints_at (by omega), hFR v] at this
  exact this rfl
theorem parts_single {n : Nat} {l : List A} {F : List Nat} (hC : chkE n l = 0) (h : Jn (prl l) 1 (List.range n) F) : tdL F = List.range n := by
  have hst : Jn (prl l) 1 (List.range n) (List.range n) := .stop (fun a b hf => by
    obtain ⟨m1, m2⟩ := hf.mem (by rw [List.length_range]; exact prl_in hC)
    have c1 := List.count_pos_iff.2 m1
    have c2 := List.count_pos_iff.2 m2
    have := hf.2.2
    omega)
  rw [← hst.one h]
  exact range_tidy n
theorem labs_right (R : Nat → Nat) (h : T3.RT R) (n : Nat) : tdy (ints (T3.labs R n)) 0 = true := by
  have h := tdy_labs h n n 0 (by omega)
  rw [List.drop_zero] at h
  exact h
/-- Cut up under the bound 1 all are single. -/
theorem cut_single {n : Nat} {l : List A} {L : List Nat} (hC : chkE n l = 0) (hL : L.length = n) (hT : tdy (ints L) 0 = true) : cuL l L 1 = List.range n := by
  obtain ⟨h1, h2, h3, _⟩ := cuL_holds (bd := 1) hC hL hT (Nat.le_refl _)
  have h4 := single_of h2 h3
  rw [h1, hL] at h4
  exact h4
end Go.Proofs.Ytchfccbneedejaa
