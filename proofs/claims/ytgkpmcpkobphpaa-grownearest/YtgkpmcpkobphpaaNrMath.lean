/-
  The order of a growth is by distance, in steps.
-/
import Derived.Test.YtgkpmcpkobphpaaNFromC
import Derived.Test.YtgkpmcpkobphpaaOrdW
import Derived.Test.YtgkpmcpkobphpaaKeptP
import Derived.Test.YtgkpmcpkobphpaaRegion
namespace Go.Proofs.Ytgkpmcpkobphpaa
open Go.RowKit
/-- An arc in the words of the searches' texts. -/
def toN (x : A) : N5.A := ⟨x.f, x.t, x.w⟩
theorem toN_at {x : A} {w : World} {b o : Nat} (h : x.at w b o) : (toN x).at w b o := h
theorem mapN_getD (l : List A) (j : Nat) (hj : j < l.length) : (l.map toN).getD j N5.A.zero = toN (l.getD j A.zero) := by simp [List.getD, hj]
theorem arcs_N {w : World} {a : Option Addr} {l : List A} (h : Arcs w a l) : N5.Arcs w a (l.map toN) := by
  rcases h with rfl | ⟨b, o, rfl, hl, hc⟩
  · exact .inl rfl
  · refine .inr ⟨b, o, rfl, hl, fun j hj => ?_⟩
    have hj' : j < l.length := by simpa using hj
    rw [mapN_getD l j hj']
    exact toN_at (hc j hj')
theorem okA_N (N : Int) : (N5.okA N ∘ toN) = okA N := by funext x; rfl
theorem chkE_N (N : Int) (l : List A) : N5.chkE N (l.map toN) = chkE N l := by
  unfold N5.chkE chkE
  rw [List.length_map, List.all_map, okA_N]
/-- The arcs of a graph both ways, of weight 1. -/
def dbl (l : List A) : List A := l.flatMap (fun x => [⟨x.f, x.t, 1⟩, ⟨x.t, x.f, 1⟩])
theorem dbl_snoc (q : List A) (x : A) : dbl (q ++ [x]) = dbl q ++ [⟨x.f, x.t, 1⟩, ⟨x.t, x.f, 1⟩] := by simp [dbl, List.flatMap_append]
theorem dbl_len (l : List A) : (dbl l).length = 2 * l.length := by
  induction l with
  | nil => rfl
  | cons x r ih => simp [dbl] at ih ⊢; omega
theorem mem_dbl {l : List A} {y : A} : y ∈ dbl l ↔ ∃ x ∈ l, y = ⟨x.f, x.t, 1⟩ ∨ y = ⟨x.t, x.f, 1⟩ := by
  unfold dbl
  rw [List.mem_flatMap]
  simp
theorem dbl_RG {n : Nat} {l : List A} (hC : chkE n l = 0) (h : 2 * l.length ≤ 8192) : N5.RG n ((dbl l).map toN) ∧ N5.chkE n ((dbl l).map toN) = 0 := by
  obtain ⟨h1, h2, h3, h4⟩ := chk_zero hC
  have hall : ∀ y ∈ dbl l, ((0 ≤ y.f ∧ y.f < n) ∧ (0 ≤ y.t ∧ y.t < n)) ∧ y.w = 1 := fun y hy => by
    obtain ⟨x, hx, rfl | rfl⟩ := mem_dbl.1 hy
    · exact ⟨h4 x hx, rfl⟩
    · exact ⟨⟨(h4 x hx).2, (h4 x hx).1⟩, rfl⟩
  refine ⟨⟨by omega, by omega, by rw [List.length_map, dbl_len]; exact h, fun x hx => ?_, fun x hx => ?_⟩, ?_⟩
  · obtain ⟨y, hy, rfl⟩ := List.mem_map.1 hx
    exact (hall y hy).1
  · obtain ⟨y, hy, rfl⟩ := List.mem_map.1 hx
    have := (hall y hy).2
    show 0 ≤ y.w ∧ y.w < _
    omega
  · rw [chkE_N]
    refine (chk_ok (by omega) (by rw [dbl_len]; omega) ?_).1
    rw [List.all_eq_true]
    intro y hy
    have := (hall y hy).1
    simp [okA, okV]
    omega
/-- What is asked of distances in steps. -/
structure Fd (E : List Ed) (M N c : Nat) (F : Nat → Int) : Prop where
  lo : ∀ v, 0 ≤ F v
  bd : ∀ v, F v < N5.Inf → F v + 1 < N5.Inf
  f0 : F c = 0
  st : ∀ u v, adjF E M u 0 v = true → F u < N5.Inf → F v ≤ F u + 1
  pr : ∀ v, F v < N5.Inf → v = c ∨ ∃ u, u < N ∧ adjF E M u 0 v = true ∧ F u + 1 = F v
theorem Fd.of {l : List A} {n c : Nat} {F : Nat → Int} (hC : chkE n l = 0) (h : N5.IsD ((dbl l).map toN) (fun _ => true) c F) (hbd : ∀ v, F v < N5.Inf → F v ≤ n * 4294967296) : Fd (edl l) (2 * l.length) n c F := by
  obtain ⟨_, hn2, _, h4⟩ := chk_zero hC
  have hpo : ∀ x, x ∈ l → 0 ≤ x.f ∧ 0 ≤ x.t := fun x hx => ⟨(h4 x hx).1.1, (h4 x hx).2.1⟩
  have hst : ∀ u v, adjF (edl l) (2 * l.length) u 0 v = true → F u < N5.Inf → F v ≤ F u + 1 := fun u v ha hu => by
    rw [← nr_adj hpo] at ha
    unfold nr at ha
    obtain ⟨x, hx, hn⟩ := List.any_eq_true.1 ha
    have hp := hpo x hx
    simp only [Bool.or_eq_true, Bool.and_eq_true, beq_iff_eq] at hn
    have go : ∀ y : A, y ∈ dbl l → y.f = u → y.t = v → y.w = 1 → F v ≤ F u + 1 := fun y hy e1 e2 e3 => by
      have es : N5.src (toN y) = u := by show y.f.toNat = u; omega
      have ed : N5.dst (toN y) = v := by show y.t.toNat = v; omega
      have hw := N5.Wk.snoc (l := (dbl l).map toN) (ok := fun _ => true) (s := c) (x := toN y) (d := F u) (List.mem_map.2 ⟨y, hy, rfl⟩) (by rw [es]; exact h.wk u hu) rfl
      rw [ed] at hw
      have := h.le v _ hw
      have e4 : (toN y).w = 1 := e3
      omega
    rcases hn with ⟨e1, e2⟩ | ⟨e1, e2⟩
    · exact go ⟨x.f, x.t, 1⟩ (mem_dbl.2 ⟨x, hx, .inl rfl⟩) e1 e2 rfl
    · exact go ⟨x.t, x.f, 1⟩ (mem_dbl.2 ⟨x, hx, .inr rfl⟩) e1 e2 rfl
  refine ⟨h.lo, fun v hv => ?_, ?_, hst, fun v hv => ?_⟩
  · have := hbd v hv
    unfold N5.Inf
    omega
  · have h1 := h.le c 0 (N5.Wk.nil rfl)
    have h2 := h.lo c
    omega
  · have hw := h.wk v hv
    obtain ⟨d0, hd0⟩ : ∃ d0, F v = d0 := ⟨_, rfl⟩
    rw [hd0] at hw
    cases hw with
    | nil _ => exact .inl rfl
    | snoc hx hk _ =>
      rename_i x d
      right
      obtain ⟨y, hy, rfl⟩ := List.mem_map.1 hx
      obtain ⟨z, hz, hyz⟩ := mem_dbl.1 hy
      have h4z := h4 z hz
      have hw1 : (toN y).w = 1 := by rcases hyz with rfl | rfl <;> rfl
      have hle := h.le _ _ hk
      have hadj : adjF (edl l) (2 * l.length) (N5.src (toN y)) 0 (N5.dst (toN y)) = true := by
        rw [← nr_adj hpo]
        unfold nr
        rw [List.any_eq_true]
        refine ⟨z, hz, ?_⟩
        simp only [Bool.or_eq_true, Bool.and_eq_true, beq_iff_eq]
        rcases hyz with rfl | rfl
        · left
          show z.f = (z.f.toNat : Int) ∧ z.t = (z.t.toNat : Int)
          omega
        · right
          show z.t = (z.t.toNat : Int) ∧ z.f = (z.f.toNat : Int)
          omega
      have hlt : F (N5.src (toN y)) < N5.Inf := by omega
      have h5 := hst _ _ hadj hlt
      refine ⟨N5.src (toN y), ?_, hadj, by omega⟩
      rcases hyz with rfl | rfl
      · show z.f.toNat < n; omega
      · show z.t.toNat < n; omega
/-- What holds while a growth goes on. -/
structure Bf (E : List Ed) (M N c : Nat) (F : Nat → Int) (k : Nat) (q : List Nat) : Prop where
  so : ∀ i j, i ≤ j → j < q.length → F (q.getD i 0) ≤ F (q.getD j 0)
  fi : ∀ u, u ∈ q → F u < N5.Inf
  nx : k < q.length → ∀ i, i < q.length → F (q.getD i 0) ≤ F (q.getD k 0) + 1
  al : k < q.length → ∀ v, v < N → F v ≤ F (q.getD k 0) → v ∈ q
theorem inf_pos : (0 : Int) < N5.Inf := by unfold N5.Inf; omega
theorem getD_mem {q : List Nat} {i : Nat} (h : i < q.length) : q.getD i 0 ∈ q := by simp [List.getD, List.getElem?_eq_getElem h]
theorem mem_getD {q : List Nat} {u : Nat} (h : u ∈ q) : ∃ i, i < q.length ∧ q.getD i 0 = u := by
  obtain ⟨i, hi, rfl⟩ := List.mem_iff_getElem.1 h
  exact ⟨i, hi, by simp [List.getD, hi]⟩
theorem bf_inv {E : List Ed} {M N c : Nat} {F : Nat → Int} (hc : c < N) (h : Fd E M N c F) : ∀ k, Bf E M N c F k (gro E M N (fun _ => false) c k).1
  | 0 => by
    have e : (gro E M N (fun _ => false) c 0).1 = [c] := rfl
    rw [e]
    refine ⟨fun i j hij hj => ?_, fun u hu => ?_, fun _ i hi => ?_, fun _ v _ hv => ?_⟩
    · simp at hj; subst hj; obtain rfl : i = 0 := by omega
      exact Int.le_refl _
    · simp at hu; subst hu; rw [h.f0]; exact inf_pos
    · simp at hi; subst hi; omega
    · have e2 : ([c] : List Nat).getD 0 0 = c := rfl
      rw [e2, h.f0] at hv
      rcases h.pr v (by have := inf_pos; omega) with rfl | ⟨u, _, _, hu⟩
      · simp
      · have := h.lo u; omega
  | k + 1 => by
    have ih := bf_inv hc h k
    by_cases hk : k < (gro E M N (fun _ => false) c k).1.length
    · have hdone := gro_done (E := E) (M := M) (N := N) (S := fun _ => false) (c := c) (k + 1)
      have hseen := gro_seen (E := E) (M := M) (N := N) (S := fun _ => false) hc
      have hsk := hseen k
      have hsk1 := hseen (k + 1)
      have hgo := gro_go hk
      have hm0 := getD_mem hk
      have hfirst : c ∈ (gro E M N (fun _ => false) c k).1 := by
        obtain ⟨t, ht⟩ := gro_first (E := E) (M := M) (N := N) (S := fun _ => false) (c := c) k
        rw [ht]; simp
      have hq' : (gro E M N (fun _ => false) c (k + 1)).1 = (gro E M N (fun _ => false) c k).1 ++ ext E M N (gro E M N (fun _ => false) c k).2 ((gro E M N (fun _ => false) c k).1.getD k 0) := by rw [hgo]
      rw [hq'] at hdone hsk1 ⊢
      generalize hx : (gro E M N (fun _ => false) c k).1.getD k 0 = x at *
      generalize (gro E M N (fun _ => false) c k).1 = q at *
      have hxf := ih.fi x hm0
      have hnew : ∀ u, u ∈ ext E M N (gro E M N (fun _ => false) c k).2 x → F u = F x + 1 := fun u hu => by
        obtain ⟨h1, h2, h3⟩ := mem_ext.1 hu
        have h4 := h.st x u h3 hxf
        have h5 : ¬ F u ≤ F x := fun h5 => by
          have := ih.al hk u h1 (by rw [hx]; exact h5)
          have := (hsk u h1).2 (.inr this)
          rw [h2] at this; cases this
        omega
      generalize ext E M N (gro E M N (fun _ => false) c k).2 x = q2 at *
      have hel : ∀ i, i < (q ++ q2).length → (i < q.length ∧ (q ++ q2).getD i 0 = q.getD i 0) ∨ (q.length ≤ i ∧ F ((q ++ q2).getD i 0) = F x + 1) := fun i hi => by
        by_cases e : i < q.length
        · exact .inl ⟨e, by simp [List.getD, List.getElem?_append_left e]⟩
        · right
          refine ⟨by omega, hnew _ ?_⟩
          rw [List.length_append] at hi
          have e2 : i - q.length < q2.length := by omega
          rw [show (q ++ q2).getD i 0 = q2.getD (i - q.length) 0 by simp [List.getD, List.getElem?_append_right (show q.length ≤ i by omega)]]
          exact getD_mem e2
      have hso : ∀ i j, i ≤ j → j < (q ++ q2).length → F ((q ++ q2).getD i 0) ≤ F ((q ++ q2).getD j 0) := fun i j hij hj => by
        rcases hel j hj with ⟨j1, j2⟩ | ⟨j1, j2⟩
        · rcases hel i (by omega) with ⟨i1, i2⟩ | ⟨i1, i2⟩
          · rw [i2, j2]; exact ih.so i j hij j1
          · omega
        · rcases hel i (by omega) with ⟨i1, i2⟩ | ⟨i1, i2⟩
          · rw [i2, j2]; have := ih.nx hk i i1; rw [hx] at this; exact this
          · omega
      have htop : ∀ i, i < (q ++ q2).length → F ((q ++ q2).getD i 0) ≤ F x + 1 := fun i hi => by
        rcases hel i hi with ⟨i1, i2⟩ | ⟨i1, i2⟩
        · rw [i2]; have := ih.nx hk i i1; rw [hx] at this; exact this
        · omega
      have hfi : ∀ u, u ∈ q ++ q2 → F u < N5.Inf := fun u hu => by
        rcases List.mem_append.1 hu with hu | hu
        · exact ih.fi u hu
        · rw [hnew u hu]; exact h.bd x hxf
      refine ⟨hso, hfi, fun hk1 i hi => ?_, fun hk1 v hv hvy => ?_⟩
      · have h1 := htop i hi
        have h2 := hso k (k + 1) (by omega) hk1
        rcases hel k (by omega) with ⟨_, e⟩ | ⟨e, _⟩
        · rw [e, hx] at h2; omega
        · omega
      · have h1 := htop (k + 1) hk1
        by_cases h2 : F v ≤ F x
        · exact List.mem_append_left _ (ih.al hk v hv (by rw [hx]; exact h2))
        · have hvf : F v < N5.Inf := by
            have := hfi _ (getD_mem hk1)
            omega
          rcases h.pr v hvf with rfl | ⟨u, hu1, hu2, hu3⟩
          · exact List.mem_append_left _ hfirst
          · have huq := ih.al hk u hu1 (by rw [hx]; omega)
            obtain ⟨i, hi, hiu⟩ := mem_getD huq
            have hiu' : (q ++ q2).getD i 0 = u := by rw [← hiu]; simp [List.getD, List.getElem?_append_left hi]
            by_cases hik : i ≤ k
            · have := hdone i (by omega) (by rw [List.length_append]; omega) v (by rw [hiu']; exact hu2)
              rcases (hsk1 v hv).1 this with h6 | h6
              · cases h6
              · exact h6
            · have h7 := hso (k + 1) i (by omega) (by rw [List.length_append]; omega)
              rw [hiu'] at h7
              omega
    · have e : gro E M N (fun _ => false) c (k + 1) = gro E M N (fun _ => false) c k := by simp only [gro]; rw [if_neg hk]
      rw [e]
      exact ⟨ih.so, ih.fi, fun hk1 => absurd hk1 (by omega), fun hk1 => absurd hk1 (by omega)⟩
/-- All that is reached, in order of distance; nothing else is. -/
theorem whole_near {E : List Ed} {M N c : Nat} {F : Nat → Int} (hc : c < N) (h : Fd E M N c F) : (∀ i j, i ≤ j → j < (whole E M N (fun _ => false) c).length → F ((whole E M N (fun _ => false) c).getD i 0) ≤ F ((whole E M N (fun _ => false) c).getD j 0)) ∧ (∀ u, u ∈ whole E M N (fun _ => false) c → F u < N5.Inf) ∧ ∀ v, v < N → F v < N5.Inf → v ∈ whole E M N (fun _ => false) c := by
  have hb := bf_inv hc h N
  refine ⟨hb.so, hb.fi, ?_⟩
  have key : ∀ (d : Nat) (v : Nat), v < N → F v < N5.Inf → F v ≤ d → v ∈ whole E M N (fun _ => false) c := by
    intro d
    induction d with
    | zero =>
      intro v hv hf hd
      rcases h.pr v hf with rfl | ⟨u, _, _, hu⟩
      · exact whole_first _ _ _ _ _
      · have := h.lo u; omega
    | succ d ih =>
      intro v hv hf hd
      rcases h.pr v hf with rfl | ⟨u, hu1, hu2, hu3⟩
      · exact whole_first _ _ _ _ _
      · have hu := ih u hu1 (by omega) (by omega)
        rcases whole_closed hc hu hv hu2 with h1 | h1
        · cases h1
        · exact h1
  intro v hv hf
  exact key (F v).toNat v hv hf (by have := h.lo v; omega)
/-- A region in order of distance. -/
theorem reg_near {l : List A} {n c m : Nat} {F : Nat → Int} (hc : c < n) (h : Fd (edl l) (2 * l.length) n c F) : (∀ k, k < (reg n l c m).length → (k = 0 → 0 ≤ F ((reg n l c m).getD k 0)) ∧ (0 < k → F ((reg n l c m).getD (k - 1) 0) ≤ F ((reg n l c m).getD k 0)) ∧ F ((reg n l c m).getD k 0) < N5.Inf) ∧ (∀ v, v < n → v ∉ reg n l c m → (0 < (reg n l c m).length → F ((reg n l c m).getD ((reg n l c m).length - 1) 0) ≤ F v) ∧ (F v < N5.Inf → m ≤ (reg n l c m).length)) := by
  obtain ⟨h1, h2, h3⟩ := whole_near hc h
  have hle : (reg n l c m).length ≤ (whole (edl l) (2 * l.length) n (fun _ => false) c).length := by unfold reg; rw [List.length_take]; omega
  have hlm : (reg n l c m).length = min m (whole (edl l) (2 * l.length) n (fun _ => false) c).length := by unfold reg; rw [List.length_take]
  have hg : ∀ k, k < (reg n l c m).length → (reg n l c m).getD k 0 = (whole (edl l) (2 * l.length) n (fun _ => false) c).getD k 0 := fun k hk => by
    have hk2 : k < m := by omega
    unfold reg
    simp [List.getD, hk2]
  refine ⟨fun k hk => ⟨fun _ => h.lo _, fun h0 => ?_, ?_⟩, fun v hv hn => ⟨fun h0 => ?_, fun hf => ?_⟩⟩
  · rw [hg k hk, hg (k - 1) (by omega)]
    exact h1 _ _ (by omega) (by omega)
  · rw [hg k hk]
    exact h2 _ (getD_mem (by omega))
  · rw [hg _ (by omega)]
    by_cases hf : F v < N5.Inf
    · obtain ⟨i, hi, rfl⟩ := mem_getD (h3 v hv hf)
      refine h1 _ _ ?_ hi
      by_cases e : i < (reg n l c m).length
      · exact absurd (by rw [← hg i e]; exact getD_mem e) hn
      · omega
    · have := h2 _ (getD_mem (show (reg n l c m).length - 1 < (whole (edl l) (2 * l.length) n (fun _ => false) c).length by omega))
      omega
  · have hw := h3 v hv hf
    by_cases e : (whole (edl l) (2 * l.length) n (fun _ => false) c).length ≤ m
    · exact absurd (by unfold reg; rw [List.take_of_length_le e]; exact hw) hn
    · omega
theorem reg_head {n c m : Nat} {l : List A} (hm : 1 ≤ m) : 0 < (reg n l c m).length ∧ (reg n l c m).getD 0 0 = c := by
  obtain ⟨t, ht⟩ := gro_first (E := edl l) (M := 2 * l.length) (N := n) (S := fun _ => false) (c := c) n
  unfold reg whole
  rw [ht]
  obtain ⟨k, rfl⟩ : ∃ k, m = k + 1 := ⟨m - 1, by omega⟩
  simp
theorem reg_less {n c m : Nat} {l : List A} : reg n l c (m - 1) = (reg n l c m).take (reg n l c (m - 1)).length ∧ (reg n l c (m - 1)).length ≤ (reg n l c m).length := by
  have e : reg n l c (m - 1) = (reg n l c m).take (m - 1) := by
    unfold reg
    rw [List.take_take]
    congr 1
    omega
  have hl : (reg n l c (m - 1)).length ≤ (reg n l c m).length := by rw [e, List.length_take]; omega
  refine ⟨?_, hl⟩
  have : (reg n l c (m - 1)).length = min (m - 1) (reg n l c m).length := by rw [e, List.length_take]
  rw [this]
  conv => lhs; rw [e]
  by_cases h : m - 1 ≤ (reg n l c m).length
  · rw [Nat.min_eq_left h]
  · rw [Nat.min_eq_right (by omega), List.take_of_length_le (by omega), List.take_of_length_le (Nat.le_refl _)]
end Go.Proofs.Ytgkpmcpkobphpaa
