/-
  The contract of natcut.Count. Under the bound: the mathematics of labels cut up and put together.
-/
import Derived.Test.YtchfccbneedejaaZAK
import Derived.Test.YtchfccbneedejaaZAL
import Derived.Test.YtchfccbneedejaaZAM
import Derived.Test.YtchfccbneedejaaZAB
namespace Go.Proofs.Ytchfccbneedejaa
open Go.RowKit
theorem tdL_getD {L : List Nat} {v : Nat} (h : v < L.length) : (tdL L).getD v 0 = T3.lab (ldI (ints L)) v := T3.labs_getD _ _ _ h
/-- Tidy labels are alike where the labels are. -/
theorem tdL_eq {L : List Nat} {u v : Nat} (hu : u < L.length) (hv : v < L.length) : (tdL L).getD u 0 = (tdL L).getD v 0 ↔ L.getD u 0 = L.getD v 0 := by
  rw [tdL_getD hu, tdL_getD hv]
  constructor
  · intro h
    have h1 := T3.lab_lead (ldI_RT (ints L)) h
    have h2 := ldI_iff.2 h1
    rw [ints_at hu, ints_at hv] at h2
    omega
  · intro h
    have h1 : ldI (ints L) u = ldI (ints L) v := ldI_eq (by rw [ints_at hu, ints_at hv, h])
    unfold T3.lab
    rw [h1]
theorem tdL_right (L : List Nat) : tdy (ints (tdL L)) 0 = true := by
  have h := tdy_labs (ldI_RT (ints L)) L.length L.length 0 (by omega)
  rw [List.drop_zero] at h
  exact h
theorem tdL_self {L : List Nat} (h : tdy (ints L) 0 = true) : tdL L = L := by
  have h1 := (tdy_iff (ints L)).1 h
  rw [ints_len] at h1
  have h2 : ints L = ints (tdL L) := h1
  have h3 := congrArg (List.map Int.toNat) h2
  simpa [ints, Function.comp_def] using h3.symm
theorem count_pat {L T : List Nat} (hl : T.length = L.length) (he : ∀ u v, u < L.length → v < L.length → (T.getD u 0 = T.getD v 0 ↔ L.getD u 0 = L.getD v 0)) {u : Nat} (hu : u < L.length) : T.count (T.getD u 0) = L.count (L.getD u 0) := by
  rw [count_at, count_at, hl]
  refine List.countP_congr (fun v hv => ?_)
  have hv := List.mem_range.1 hv
  simp only [decide_eq_true_eq]
  exact he v u hv hu
theorem tdL_count {L : List Nat} {u : Nat} (hu : u < L.length) : (tdL L).count ((tdL L).getD u 0) = L.count (L.getD u 0) := count_pat (tdL_len L) (fun _ _ h1 h2 => tdL_eq h1 h2) hu
theorem mem_getDN {L : List Nat} {x : Nat} (h : x ∈ L) : ∃ u, u < L.length ∧ L.getD u 0 = x := by
  obtain ⟨j, hj, rfl⟩ := List.mem_iff_getElem.1 h
  exact ⟨j, hj, getD_in hj⟩
/-- No size is above a bound. -/
def Und (B : Nat) (L : List Nat) : Prop := ∀ x, L.count x ≤ B
theorem und_of {B : Nat} {L : List Nat} (h : ∀ u, u < L.length → L.count (L.getD u 0) ≤ B) : Und B L := fun x => by
  by_cases hx : x ∈ L
  · obtain ⟨u, hu, rfl⟩ := mem_getDN hx
    exact h u hu
  · rw [List.count_eq_zero_of_not_mem hx]; exact Nat.zero_le _
theorem tdL_und {B : Nat} {L : List Nat} (h : Und B L) : Und B (tdL L) := und_of (fun u hu => by
  rw [tdL_len] at hu
  rw [tdL_count hu]
  exact h _)
theorem mrg_und {P : List Pr} {L : List Nat} {B a b : Nat} (h : Und B L) (hf : Fit P L B a b) : Und B (mrg L a b) := fun x => by
  obtain ⟨c1, c2, c3⟩ := count_mrg (L := L) (show a ≠ b by have := hf.1; omega)
  by_cases e1 : x = a
  · rw [e1, c1]; exact hf.2.2
  · by_cases e2 : x = b
    · rw [e2, c2]; exact Nat.zero_le _
    · rw [c3 x e1 e2]; exact h x
theorem Jn.und {P : List Pr} {B : Nat} {L E : List Nat} (h : Jn P B L E) : Und B L → Und B E := by
  induction h with
  | stop _ => exact id
  | step h1 _ ih => exact fun h2 => ih (mrg_und h2 h1.1)
theorem Jn.same {P : List Pr} {B : Nat} {L E : List Nat} (h : Jn P B L E) : ∀ u v, u < L.length → v < L.length → L.getD u 0 = L.getD v 0 → E.getD u 0 = E.getD v 0 := by
  induction h with
  | stop _ => exact fun _ _ _ _ h => h
  | step h1 _ ih => exact fun u v hu hv h2 => ih u v (by rw [mrg_len]; exact hu) (by rw [mrg_len]; exact hv) (by rw [mrg_getD hu, mrg_getD hv, h2])
theorem sz_bound {B : Nat} {L : List Nat} (hT : tdy (ints L) 0 = true) (h : Und B L) : ∀ j, (szL (ints L)).getD j 0 ≤ B := fun j => by rw [sz_cnt hT]; exact h j
theorem szS_one {S : List Nat} {x : Nat} (h : ∀ u, u ∈ S → 1 ≤ u) : ∀ u, u ∈ szS S x → 1 ≤ u := by
  intro u hu
  unfold szS at hu
  split at hu
  · rcases List.mem_append.1 hu with h1 | h1
    · exact h u h1
    · rw [List.mem_singleton] at h1; omega
  · rcases List.mem_or_eq_of_mem_set hu with h1 | h1
    · exact h u h1
    · omega
theorem szL_one (xs : List Int) : ∀ u, u ∈ szL xs → 1 ≤ u := by
  have : ∀ (xs : List Int) (S : List Nat), (∀ u, u ∈ S → 1 ≤ u) → ∀ u, u ∈ (xs.foldl (fun S x => szS S x.toNat) S) → 1 ≤ u := by
    intro xs
    induction xs with
    | nil => exact fun S h => h
    | cons x r ih => exact fun S h => ih _ (szS_one h)
  exact this xs [] (fun u hu => absurd hu List.not_mem_nil)
theorem sum_setN : ∀ {S : List Nat} {k x : Nat}, k < S.length → (S.set k x).sum + S.getD k 0 = S.sum + x
  | [], k, x, h => absurd h (by simp)
  | y :: r, 0, x, _ => by simp [List.getD]; omega
  | y :: r, k + 1, x, h => by
    have ih := sum_setN (S := r) (k := k) (x := x) (by simpa using h)
    have e : (y :: r).getD (k + 1) 0 = r.getD k 0 := rfl
    rw [List.set_cons_succ, List.sum_cons, List.sum_cons, e]
    omega
theorem szS_sum {S : List Nat} {x : Nat} (h : x ≤ S.length) : (szS S x).sum = S.sum + 1 := by
  unfold szS
  split
  · simp
  · have := sum_setN (S := S) (k := x) (x := S.getD x 0 + 1) (by omega)
    omega
theorem szL_sum {L : List Nat} (h : tdy (ints L) 0 = true) : ∀ k, k ≤ L.length → (szL (ints (L.take k))).sum = k
  | 0, _ => by simp [szL, ints]
  | k + 1, hk => by
    have hk' : k < L.length := by omega
    have ih := szL_sum h k (by omega)
    have h1 := right_next h k (by rw [ints_len]; exact hk')
    rw [ints_getD hk', Int.toNat_natCast, ints_take] at h1
    have e : ints (L.take (k + 1)) = ints (L.take k) ++ [((L.getD k 0 : Nat) : Int)] := by
      rw [show L.take (k + 1) = L.take k ++ [L.getD k 0] by rw [List.take_succ_eq_append_getElem hk']; simp [List.getD, List.getElem?_eq_getElem hk'], ints_snoc]
    rw [e, szL_snoc, Int.toNat_natCast, szS_sum h1.2, ih]
theorem asg_miss {P M : List Nat} {nx bd v : Nat} (hM : ∀ u, u ∈ M → u < P.length) : ∀ k, k ≤ M.length → (∀ j, j < k → M.getD j 0 ≠ v) → (asg P M nx bd k).getD v 0 = P.getD v 0
  | 0, _, _ => rfl
  | k + 1, hk, h => by
    have hin : M.getD k 0 < P.length := hM _ (by rw [getD_in (show k < M.length by omega)]; exact List.getElem_mem _)
    show ((asg P M nx bd k).set (M.getD k 0) (nx + k / bd)).getD v 0 = _
    rw [getD_setN (by rw [asg_len]; exact hin), if_neg (fun e => h k (by omega) e.symm)]
    exact asg_miss hM k (by omega) (fun j hj => h j (by omega))
theorem nodup_getD {M : List Nat} (h : M.Nodup) {i j : Nat} (hi : i < M.length) (hj : j < M.length) (e : M.getD i 0 = M.getD j 0) : i = j := by
  rw [getD_in hi, getD_in hj] at e
  exact (List.getElem_inj h).1 e
theorem asg_hit {P M : List Nat} {nx bd : Nat} (hM : ∀ u, u ∈ M → u < P.length) (hn : M.Nodup) {j : Nat} : ∀ k, k ≤ M.length → j < k → (asg P M nx bd k).getD (M.getD j 0) 0 = nx + j / bd
  | 0, _, h => absurd h (by omega)
  | k + 1, hk, h => by
    have hin : M.getD k 0 < P.length := hM _ (by rw [getD_in (show k < M.length by omega)]; exact List.getElem_mem _)
    by_cases e : j = k
    · subst e; exact asg_last hin
    · show ((asg P M nx bd k).set (M.getD k 0) (nx + k / bd)).getD (M.getD j 0) 0 = _
      rw [getD_setN (by rw [asg_len]; exact hin), if_neg (fun e2 => e (nodup_getD hn (by omega) (by omega) e2))]
      exact asg_hit hM hn k (by omega) (by omega)
theorem orL_all {n : Nat} {l : List A} {L : List Nat} {lb : Nat} (hC : chkE n l = 0) (hL : L.length = n) {v : Nat} (hv : v < L.length) (he : L.getD v 0 = lb) : v ∈ orL l L lb := by
  have hq : mq L lb v = true := mq_iff.2 ⟨hv, he⟩
  have hH : vsL L lb ≠ [] := T3.hits_some hv hq
  obtain ⟨h1, h2⟩ := T3.hits_rank (q := mq L lb) hv hq
  unfold orL
  refine List.mem_map.2 ⟨_, ((owL_inv hC hL hH).2 _).2 h1, ?_⟩
  show ((T3.hits (mq L lb) L.length).getD _ 0).toNat = v
  rw [h2]; rfl
theorem orL_nodup {n : Nat} {l : List A} {L : List Nat} {lb : Nat} (hC : chkE n l = 0) (hL : L.length = n) (hH : vsL L lb ≠ []) : (orL l L lb).Nodup := by
  obtain ⟨h1, h2⟩ := owL_inv hC hL hH
  unfold orL List.Nodup
  rw [List.pairwise_map]
  refine List.Pairwise.imp_of_mem (fun {a b} ha hb hab => ?_) h1
  obtain ⟨u, _, hu2, hu3, hu4⟩ := T3.hits_idx (q := mq L lb) (n := L.length) (j := a) ((h2 a).1 ha)
  obtain ⟨v, _, hv2, hv3, hv4⟩ := T3.hits_idx (q := mq L lb) (n := L.length) (j := b) ((h2 b).1 hb)
  show ((T3.hits (mq L lb) L.length).getD a 0).toNat ≠ ((T3.hits (mq L lb) L.length).getD b 0).toNat
  rw [hu3, hv3]
  intro e
  have e : u = v := by simpa using e
  subst e
  omega
/-- What holds while labels are cut up. -/
structure CI (L S : List Nat) (bd k : Nat) (P : List Nat) (nx : Nat) : Prop where
  len : P.length = L.length
  nxl : S.length ≤ nx
  at_ : ∀ v, v < L.length → (P.getD v 0 = L.getD v 0 ∧ (k ≤ L.getD v 0 ∨ S.getD (L.getD v 0) 0 ≤ bd)) ∨ (S.length ≤ P.getD v 0 ∧ P.getD v 0 < nx ∧ L.getD v 0 < k)
  apart : ∀ u v, u < L.length → v < L.length → P.getD u 0 = P.getD v 0 → L.getD u 0 = L.getD v 0
  cnt : ∀ x, S.length ≤ x → P.count x ≤ bd
theorem count_filter (P : List Nat) (x : Nat) : P.count x = ((List.range P.length).filter (fun v => decide (P.getD v 0 = x))).length := by
  rw [count_at, List.countP_eq_length_filter]
theorem count_into {P : List Nat} {x : Nat} {q : List Nat} (h : ∀ v, v < P.length → P.getD v 0 = x → v ∈ q) : P.count x ≤ q.length := by
  rw [count_filter]
  refine List.Nodup.length_le_of_subset (List.Nodup.sublist List.filter_sublist List.nodup_range) (fun v hv => ?_)
  obtain ⟨h1, h2⟩ := List.mem_filter.1 hv
  exact h v (List.mem_range.1 h1) (by simpa using h2)
theorem cu_inv {n : Nat} {l : List A} {L : List Nat} {bd : Nat} (hC : chkE n l = 0) (hL : L.length = n) (hT : tdy (ints L) 0 = true) (hB : 1 ≤ bd) : ∀ k, CI L (szL (ints L)) bd k (cuS l L (szL (ints L)) bd k).1 (cuS l L (szL (ints L)) bd k).2
  | 0 => by
    have hlt : ∀ v, v < L.length → L.getD v 0 < (szL (ints L)).length := fun v hv => (right_sz hT _ (by rw [getD_in hv]; exact List.getElem_mem _)).1
    refine ⟨rfl, Nat.le_refl _, fun v _ => .inl ⟨rfl, .inl (Nat.zero_le _)⟩, fun u v _ _ h => h, fun x hx => ?_⟩
    show L.count x ≤ bd
    rw [List.count_eq_zero_of_not_mem (fun h => ?_)]
    · exact Nat.zero_le _
    · have := (right_sz hT x h).1
      omega
  | k + 1 => by
    have ih := cu_inv hC hL hT hB k
    by_cases hs : (szL (ints L)).getD k 0 ≤ bd
    · rw [cuS_le hs]
      refine ⟨ih.len, ih.nxl, fun v hv => ?_, ih.apart, ih.cnt⟩
      rcases ih.at_ v hv with ⟨h1, h2⟩ | ⟨h1, h2, h3⟩
      · left
        refine ⟨h1, ?_⟩
        rcases h2 with h2 | h2
        · by_cases e : L.getD v 0 = k
          · right; rw [e]; exact hs
          · left; omega
        · exact .inr h2
      · exact .inr ⟨h1, h2, by omega⟩
    · rw [cuS_gt hs]
      have hlt : ∀ v, v < L.length → L.getD v 0 < (szL (ints L)).length := fun v hv => (right_sz hT _ (by rw [getD_in hv]; exact List.getElem_mem _)).1
      have hH : vsL L k ≠ [] := fun e => hs (by rw [sz_vs hT, e]; exact Nat.zero_le _)
      have hnd := orL_nodup hC hL hH
      have hmem : ∀ v, v ∈ orL l L k ↔ v < L.length ∧ L.getD v 0 = k := fun v => ⟨orL_mem hC hL hH, fun h => orL_all hC hL h.1 h.2⟩
      generalize hP : (cuS l L (szL (ints L)) bd k).1 = P at *
      generalize hx : (cuS l L (szL (ints L)) bd k).2 = nx at *
      generalize orL l L k = M at *
      have hMP : ∀ u, u ∈ M → u < P.length := fun u hu => by rw [ih.len]; exact ((hmem u).1 hu).1
      have hin : ∀ v, v < L.length → L.getD v 0 = k → ∃ j d, j < M.length ∧ M.getD j 0 = v ∧ d = j / bd ∧ (asg P M nx bd M.length).getD v 0 = nx + d := fun v hv he => by
        obtain ⟨j, hj, e⟩ := mem_getDN ((hmem v).2 ⟨hv, he⟩)
        refine ⟨j, _, hj, e, rfl, ?_⟩
        rw [← e]
        exact asg_hit hMP hnd M.length (Nat.le_refl _) hj
      have hout : ∀ v, v < L.length → L.getD v 0 ≠ k → (asg P M nx bd M.length).getD v 0 = P.getD v 0 := fun v hv he => asg_miss hMP M.length (Nat.le_refl _) (fun j hj e => he (((hmem v).1 (by rw [← e, getD_in hj]; exact List.getElem_mem hj)).2))
      have hlow : ∀ v, v < L.length → P.getD v 0 < nx := fun v hv => by
        rcases ih.at_ v hv with ⟨h1, _⟩ | ⟨_, h2, _⟩
        · rw [h1]; have := hlt v hv; have := ih.nxl; omega
        · exact h2
      have hdv : ∀ j, j < M.length → j / bd ≤ (M.length - 1) / bd := fun j hj => Nat.div_le_div_right (by omega)
      generalize (M.length - 1) / bd = D at *
      refine ⟨by rw [asg_len]; exact ih.len, by have := ih.nxl; show _ ≤ nx + D + 1; omega, fun v hv => ?_, fun u v hu hv he => ?_, fun x hx => ?_⟩
      · by_cases e : L.getD v 0 = k
        · obtain ⟨j, d, hj, _, hd, h2⟩ := hin v hv e
          right
          have h3 : d ≤ D := hd ▸ hdv j hj
          have := ih.nxl
          rw [h2]
          exact ⟨by omega, by show _ < nx + D + 1; omega, by omega⟩
        · rw [hout v hv e]
          rcases ih.at_ v hv with ⟨h1, h2⟩ | ⟨h1, h2, h3⟩
          · left
            refine ⟨h1, ?_⟩
            rcases h2 with h2 | h2
            · left; omega
            · exact .inr h2
          · exact .inr ⟨h1, by show _ < nx + D + 1; omega, by omega⟩
      · by_cases e1 : L.getD u 0 = k
        · by_cases e2 : L.getD v 0 = k
          · omega
          · obtain ⟨j, d, hj, _, hd, h2⟩ := hin u hu e1
            rw [h2, hout v hv e2] at he
            have := hlow v hv
            omega
        · by_cases e2 : L.getD v 0 = k
          · obtain ⟨j, d, hj, _, hd, h2⟩ := hin v hv e2
            rw [h2, hout u hu e1] at he
            have := hlow u hu
            omega
          · rw [hout u hu e1, hout v hv e2] at he
            exact ih.apart u v hu hv he
      · show (asg P M nx bd M.length).count x ≤ bd
        rcases Nat.lt_or_ge x nx with hxn | hxn
        · refine Nat.le_trans ?_ (ih.cnt x hx)
          rw [count_filter P]
          refine count_into (fun v hv he => ?_)
          rw [asg_len, ih.len] at hv
          refine List.mem_filter.2 ⟨List.mem_range.2 (by rw [ih.len]; exact hv), ?_⟩
          rw [decide_eq_true_eq]
          by_cases e : L.getD v 0 = k
          · obtain ⟨j, d, hj, _, hd, h2⟩ := hin v hv e
            omega
          · rw [← hout v hv e]; exact he
        · have h1 : ((List.range bd).map (fun i => M.getD ((x - nx) * bd + i) 0)).length = bd := by simp
          have h4 := count_into (P := asg P M nx bd M.length) (x := x) (q := (List.range bd).map (fun i => M.getD ((x - nx) * bd + i) 0)) (fun v hv he => ?_)
          · omega
          · rw [asg_len, ih.len] at hv
            by_cases e : L.getD v 0 = k
            · obtain ⟨j, d, hj, h2, hd, h3⟩ := hin v hv e
              have hq : j / bd = x - nx := by rw [← hd]; omega
              have h5 := Nat.div_add_mod j bd
              have h6 := Nat.mod_lt j (show 0 < bd by omega)
              refine List.mem_map.2 ⟨j % bd, List.mem_range.2 h6, ?_⟩
              rw [← hq, Nat.mul_comm, h5]
              exact h2
            · have := hlow v hv
              rw [hout v hv e] at he
              omega
/-- What is cut up is under the bound; who had unlike labels has unlike ones. -/
theorem cuL_holds {n : Nat} {l : List A} {L : List Nat} {bd : Nat} (hC : chkE n l = 0) (hL : L.length = n) (hT : tdy (ints L) 0 = true) (hB : 1 ≤ bd) : (cuL l L bd).length = L.length ∧ tdy (ints (cuL l L bd)) 0 = true ∧ Und bd (cuL l L bd) ∧ ∀ u v, u < L.length → v < L.length → (cuL l L bd).getD u 0 = (cuL l L bd).getD v 0 → L.getD u 0 = L.getD v 0 := by
  have ih := cu_inv hC hL hT hB (szL (ints L)).length
  unfold cuL
  generalize (cuS l L (szL (ints L)) bd (szL (ints L)).length).1 = P at *
  have hl : (tdL P).length = L.length := (tdL_len P).trans ih.len
  refine ⟨hl, tdL_right P, tdL_und (und_of (fun u hu => ?_)), fun u v hu hv he => ?_⟩
  · have hu' : u < L.length := by rw [← ih.len]; exact hu
    rcases ih.at_ u hu' with ⟨h1, h2⟩ | ⟨h1, _, _⟩
    · have hlt := (right_sz hT _ (by rw [getD_in hu']; exact List.getElem_mem _ : L.getD u 0 ∈ L)).1
      have h3 : (szL (ints L)).getD (L.getD u 0) 0 ≤ bd := by
        rcases h2 with h2 | h2
        · omega
        · exact h2
      rw [sz_cnt hT] at h3
      refine Nat.le_trans ?_ h3
      rw [h1, count_filter L]
      refine count_into (fun v hv he => ?_)
      rw [ih.len] at hv
      refine List.mem_filter.2 ⟨List.mem_range.2 hv, ?_⟩
      rw [decide_eq_true_eq]
      exact ih.apart v u hv hu' (by rw [he, h1])
    · exact ih.cnt _ h1
  · rw [tdL_eq (by rw [ih.len]; exact hu) (by rw [ih.len]; exact hv)] at he
    exact ih.apart u v hu hv he
/-- No size is above the bound, as the greatest one tells. -/
theorem und_mx {L : List Nat} {B : Nat} (hT : tdy (ints L) 0 = true) (h : ∀ j, j < (szL (ints L)).length → (szL (ints L)).getD j 0 ≤ B) : Und B L := und_of (fun u hu => by
  have hm := right_sz hT _ (by rw [getD_in hu]; exact List.getElem_mem _ : L.getD u 0 ∈ L)
  rw [← hm.2]
  exact h _ hm.1)
end Go.Proofs.Ytchfccbneedejaa
namespace Go.Proofs.Ytchfccbneedejaa
open Go.RowKit
theorem prl_lt {n : Nat} {l : List A} (hoa : ∀ x, x ∈ l → (0 ≤ x.f ∧ x.f < (n : Int)) ∧ (0 ≤ x.t ∧ x.t < (n : Int))) {p : Pr} (hp : p ∈ prl l) : p.a < n ∧ p.b < n := by
  obtain ⟨h1, h2⟩ := (prl_mem (fun x hx => ⟨(hoa x hx).1.1, (hoa x hx).2.1⟩)).1 hp
  unfold nr at h2
  rw [List.any_eq_true] at h2
  obtain ⟨x, hx, h3⟩ := h2
  have h5 := hoa x hx
  simp only [Bool.or_eq_true, Bool.and_eq_true, beq_iff_eq] at h3
  omega
set_option maxRecDepth 100000 in
set_option maxHeartbeats 800000 in
theorem tidy_any (a : Option Addr) (xs : List Int) (cap : Nat) (w : World) (hl : xs.length ≤ 9223372036854775807) (hr : Ints w a xs) :
    Calls Try.prog 48 #[.slice a xs.length cap] w fun e w' => e = .returned (.bool (tdy xs 0)) ∧ w' = w := by
  obtain ⟨ix, ox, hix⟩ := hr.get
  have HIX := Lib.hid hix
  clear hix hr
  go_enter Try.func48, Try.ntmps48
  go_wp2_with fail
  go_loopw [3, 8] (fun s3 i wr => ∃ (k nx : Nat), k ≤ xs.length ∧ i = .int .i64 k ∧ s3 = .int .i64 nx ∧ nx ≤ k ∧ Hid (tdy xs 0 = tdy (xs.drop k) nx) ∧ wr = w) (fun _ i _ => xs.length - (intOf i).toNat)
  case atStart => exact ⟨0, 0, Nat.zero_le _, rfl, rfl, Nat.le_refl _, rfl, rfl⟩
  case round =>
    obtain ⟨k, nx, hk, rfl, rfl, hnk, HT, rfl⟩ := hrel
    by_cases hlk : k < xs.length
    · obtain ⟨rfl, hbl, hat⟩ := HIX.out (by omega)
      have hlk' : (k : Int) < xs.length := by omega
      have cx := hat k hlk
      have HDG := Lib.hid (drop_getI hlk)
      clear hat
      generalize xs.getD k 0 = x at *
      by_cases h0 : x < 0
      · have HF : Hid (tdy xs 0 = false) := by show _ = _; rw [HT.out, HDG.out]; simp only [tdy]; rw [if_pos (.inl h0)]
        go_wp2_with fail
        go_ret
        exact ⟨by rw [HF.out]; rfl, rfl⟩
      · by_cases h1 : (nx : Int) < x
        · have HF : Hid (tdy xs 0 = false) := by show _ = _; rw [HT.out, HDG.out]; simp only [tdy]; rw [if_pos (.inr h1)]
          go_wp2_with fail
          go_ret
          exact ⟨by rw [HF.out]; rfl, rfl⟩
        · have HF : Hid (tdy xs 0 = tdy (xs.drop (k + 1)) (if x = (nx : Int) then (nx : Int) + 1 else nx)) := by show _ = _; rw [HT.out, HDG.out]; simp only [tdy]; rw [if_neg (by omega)]
          have hnk' : (nx : Int) ≤ k := by omega
          by_cases h2 : x = (nx : Int)
          · subst h2
            have e2 : ((nx : Int) == (nx : Int)) = true := by simp
            go_wp2_with fail
            refine ⟨⟨k + 1, nx + 1, by omega, by simp, by simp, by omega, ?_, trivial⟩, by simp [intOf]; omega⟩
            show _ = _
            rw [HF.out, if_pos rfl]; rfl
          · have e2 : (x == (nx : Int)) = false := by simpa using h2
            go_wp2_with fail
            refine ⟨⟨k + 1, nx, by omega, by simp, rfl, by omega, ?_, trivial⟩, by simp [intOf]; omega⟩
            show _ = _
            rw [HF.out, if_neg h2]
    · have hlk' : ¬ (k : Int) < xs.length := by omega
      have HF : Hid (tdy xs 0 = true) := by show _ = _; rw [HT.out, List.drop_eq_nil_of_le (by omega)]; rfl
      go_wp2_with fail
      go_ret
      exact ⟨by rw [HF.out]; rfl, rfl⟩
theorem filter_snocP {ps : List Pr} {f : Pr → Bool} {k : Nat} (h : k < ps.length) : (ps.take (k + 1)).filter f = (ps.take k).filter f ++ (if f (ps.getD k Pr.zero) then [ps.getD k Pr.zero] else []) := by
  rw [take_snocP h, List.filter_append]
  congr 1
  simp only [List.filter_cons, List.filter_nil]
/-- How many pairs lie between labels. -/
def cntB (xs : List Int) (ps : List Pr) : Nat := (ps.filter (fun p => !(xs.getD p.a 0 == xs.getD p.b 0))).length
/-- What Count tells. -/
def cntE (N : Int) (l : List A) (xs : List Int) : Int := if chkE N l ≠ 0 then chkE N l else if (xs.length : Int) ≠ N ∨ tdy xs 0 = false then 80 else 0
set_option maxRecDepth 100000 in
set_option maxHeartbeats 1600000 in
theorem count_any (N : Int) (a : Option Addr) (l : List A) (cap : Nat) (b : Option Addr) (xs : List Int) (bc : Nat) (w : World) (hl : l.length ≤ 9223372036854775807) (hx : xs.length ≤ 9223372036854775807) (hr : Arcs w a l) (hi : Ints w b xs) :
    Calls Try.prog 24 #[.agg #[.int .i64 N, .slice a l.length cap], .slice b xs.length bc] w fun e w' => e = .returned (.tuple #[.int .i64 (if cntE N l xs = 0 then (cntB xs (prl l) : Nat) else 0), .int .i64 (cntE N l xs)]) ∧ Below w.heap.size w w' := by
  have hb0 : Below w.heap.size w (w.alloc (.cells #[.int .i64 N, .slice a l.length cap] 24)) := (Below.refl _ _).alloc (Nat.le_refl _) _
  have hg := heap_top w (.cells #[.int .i64 N, .slice a l.length cap] 24)
  have HR := Lib.hid (hr.on hb0)
  have HI := Lib.hid (hi.on hb0)
  have hwz : w.heap.size ≤ (w.alloc (.cells #[.int .i64 N, .slice a l.length cap] 24)).heap.size := hb0.size
  have HB0 := Lib.hid hb0
  obtain ⟨V, HV⟩ := named (if cntE N l xs = 0 then ((cntB xs (prl l) : Nat) : Int) else 0)
  rw [HV.out]
  obtain ⟨G, HG⟩ := named (cntE N l xs)
  rw [HG.out] at HV ⊢
  clear hb0 hr hi
  generalize hp : w.heap.size = p at *
  go_enter Try.func24, Try.ntmps24
  go_wp2_with fail
  generalize hW : w.alloc (.cells #[.int .i64 N, .slice a l.length cap] 24) = W at *
  clear hW
  refine (pairs_any N a l cap W hl HR.out).mono ?_
  rintro e w1 ⟨v1, c1, ps, rfl, hown1, hps, hb1⟩
  have hpz : p < W.heap.size := lt_of_block hg
  have HB1 : Hid (Below p w w1) := HB0.out.trans (hb1.mono hwz)
  have hg1 := (hb1.block p hpz).trans hg
  obtain ⟨⟨c0, c1'⟩, _⟩ := two_cells hg1
  have HI1 := Lib.hid (HI.out.on hb1)
  have HO1 := Lib.hid hown1
  have hwz1 : W.heap.size ≤ w1.heap.size := hb1.size
  obtain ⟨E, HE⟩ := named (chkE N l)
  rw [HE.out] at hps ⊢
  clear hb1 hown1 hg
  by_cases hE : E ≠ 0
  · have e1 : (E != 0) = true := by simpa using hE
    have e2 : (E == 0) = false := by simpa using hE
    have HGE : Hid (G = E) := by show _ = _; rw [← HG.out]; unfold cntE; rw [if_pos (by rw [HE.out]; exact hE), HE.out]
    go_wp2_with fail
    go_ret2
    refine ⟨?_, HB1.out⟩
    rw [← HV.out, HGE.out, if_neg hE]; rfl
  obtain rfl : E = 0 := by omega
  rw [if_pos rfl] at hps
  obtain ⟨n, hn⟩ : ∃ n : Nat, N = n := ⟨N.toNat, by have := (chk_zero HE.out).1; omega⟩
  subst hn hps
  clear hE
  obtain ⟨_, hn2, hlb, hoa⟩ := chk_zero HE.out
  have HND : Hid (∀ p, p ∈ prl l → p.a < n ∧ p.b < n) := fun p hp => prl_lt hoa hp
  have hpl : (prl l).length ≤ 8192 := Nat.le_trans (prl_len l) hlb
  have HGE : Hid (G = if (xs.length : Int) ≠ (n : Int) ∨ tdy xs 0 = false then 80 else 0) := by show _ = _; rw [← HG.out]; unfold cntE; rw [if_neg (by rw [HE.out]; omega)]
  clear hoa
  by_cases hxn : ¬ (xs.length : Int) = (n : Int)
  · have e1 : ((xs.length : Int) != (n : Int)) = true := by simpa using hxn
    have e2 : ((xs.length : Int) == (n : Int)) = false := by simpa using hxn
    rw [if_pos (.inl hxn)] at HGE
    go_wp2_with fail
    go_ret2
    refine ⟨?_, HB1.out⟩
    rw [← HV.out, HGE.out, if_neg (by decide)]; rfl
  obtain rfl : n = xs.length := by omega
  clear hxn
  have e1 : ((xs.length : Int) != (xs.length : Int)) = false := by simp
  have e2 : ((xs.length : Int) == (xs.length : Int)) = true := by simp
  go_wp2_with fail
  refine (tidy_any b xs bc w1 hx HI1.out).mono ?_
  rintro e w2 ⟨rfl, rfl⟩
  generalize htt : tdy xs 0 = tt at *
  cases tt
  · rw [if_pos (.inr rfl)] at HGE
    go_wp2_with fail
    go_ret2
    refine ⟨?_, HB1.out⟩
    rw [← HV.out, HGE.out, if_neg (by decide)]; rfl
  rw [if_neg (by rintro (h | h); exact h rfl; cases h)] at HGE
  obtain ⟨ix, ox, hix⟩ := HI1.out.get
  have HIX := Lib.hid hix
  obtain ⟨iy, oy, hiy⟩ := HO1.out.prs.get
  have HIY := Lib.hid hiy
  clear hix hiy hwz1 hpz hwz htt HI HR HI1
  generalize hB : w2.heap.size = B at *
  go_wp2_with fail
  go_loopw [8, 31] (fun s8 i wr => ∃ (k c : Nat), k ≤ (prl l).length ∧ i = .int .i64 k ∧ s8 = .int .i64 c ∧ c ≤ k ∧ Hid (cntB xs ((prl l).take k) = c) ∧ Hid (Below B w2 wr)) (fun _ i _ => (prl l).length - (intOf i).toNat)
  case atStart => exact ⟨0, 0, Nat.zero_le _, rfl, rfl, Nat.le_refl _, rfl, Below.refl _ _⟩
  case round =>
    obtain ⟨k, c, hk, rfl, rfl, hck, HC, HBR⟩ := hrel
    have hpw : B ≤ wr.heap.size := hB ▸ HBR.out.size
    by_cases hlk : k < (prl l).length
    · obtain ⟨rfl, hbl, hat⟩ := HIY.out (by omega)
      have hlk' : (k : Int) < (prl l).length := by omega
      have hck' : (c : Int) ≤ k := by omega
      obtain ⟨x0, x1⟩ := hat k hlk
      have y0 := (HBR.out.cell (p := ⟨iy, oy + k * 2, none⟩) hbl).trans x0
      have y1 := (HBR.out.cell (p := ⟨iy, oy + k * 2 + 1, none⟩) hbl).trans x1
      obtain ⟨ha, hb⟩ := HND.out ((prl l).getD k Pr.zero) (getD_memP hlk)
      have HSN := Lib.hid (filter_snocP (f := fun p => !(xs.getD p.a 0 == xs.getD p.b 0)) hlk)
      clear hat x0 x1
      generalize (prl l).getD k Pr.zero = x at *
      obtain ⟨rfl, hbx, hax⟩ := HIX.out (by omega)
      have hbB : Below B w2 (wr.alloc (.cells #[.int .i64 (x.a : Int), .int .i64 (x.b : Int)] 42)) := HBR.out.alloc hpw _
      have da := (hbB.cell (p := ⟨ix, ox + x.a, none⟩) hbx).trans (hax x.a ha)
      have db := (hbB.cell (p := ⟨ix, ox + x.b, none⟩) hbx).trans (hax x.b hb)
      have ha' : (x.a : Int) < xs.length := by omega
      have hb' : (x.b : Int) < xs.length := by omega
      have hbt := heap_top wr (.cells #[.int .i64 (x.a : Int), .int .i64 (x.b : Int)] 42)
      obtain ⟨⟨b0, b1⟩, _⟩ := two_cells hbt
      have HBA := Lib.hid hbB
      clear hbB hax hbt
      generalize xs.getD x.a 0 = ta at *
      generalize xs.getD x.b 0 = tb at *
      go_wp2_with fail
      generalize hU : wr.alloc (.cells #[.int .i64 (x.a : Int), .int .i64 (x.b : Int)] 42) = U at *
      go_quiet (fail)
      have HBN : Hid (Below B w2 (U.drewN nq)) := ⟨HBA.out.os, HBA.out.tape, HBA.out.output, HBA.out.size, HBA.out.block⟩
      generalize hUN : U.drewN nq = UN at *
      by_cases hab : ta = tb
      · have hne : (ta != tb) = false := by simpa using hab
        have HC2 : Hid (cntB xs ((prl l).take (k + 1)) = c) := by
          show _ = _
          rw [← HC.out]
          unfold cntB
          rw [HSN.out, if_neg (by simp [hab]), List.append_nil]
        clear hab
        go_wp2_with fail
        exact ⟨⟨k + 1, c, by omega, by simp, rfl, by omega, HC2, HBN⟩, by simp [intOf]; omega⟩
      · have hne : (ta != tb) = true := by simpa using hab
        have HC2 : Hid (cntB xs ((prl l).take (k + 1)) = c + 1) := by
          show _ = _
          rw [← HC.out]
          unfold cntB
          rw [HSN.out, if_pos (by simpa using hab), List.length_append]
          rfl
        clear hab
        go_wp2_with fail
        exact ⟨⟨k + 1, c + 1, by omega, by simp, by simp, by omega, HC2, HBN⟩, by simp [intOf]; omega⟩
    · have e0 : (prl l).take k = prl l := List.take_of_length_le (by omega)
      have hlk' : ¬ (k : Int) < (prl l).length := by omega
      rw [e0] at HC
      clear e0
      go_wp2_with fail
      go_ret2
      refine ⟨?_, HB1.out.trans (HBR.out.mono (hp ▸ hB ▸ HB1.out.size))⟩
      rw [← HV.out, HGE.out, if_pos rfl, HC.out]; rfl
end Go.Proofs.Ytchfccbneedejaa
