/-
  A region is connected; what lies around all of a part is nothing.
-/
import Derived.Test.YtgkpmcpkobphpaaTBr
import Derived.Test.YtgkpmcpkobphpaaOrdW
namespace Go.Proofs.Ytgkpmcpkobphpaa
open Go.RowKit
theorem getD_memN {q : List Nat} {i : Nat} (h : i < q.length) : q.getD i 0 ∈ q := by simp [List.getD, List.getElem?_eq_getElem h]
/-- Each vertex of a growth but the first has a neighbour ahead of it. -/
theorem gro_par {E : List Ed} {M N : Nat} {S : Nat → Bool} {c : Nat} : ∀ k j, 0 < j → j < (gro E M N S c k).1.length → ∃ i, i < j ∧ adjF E M ((gro E M N S c k).1.getD i 0) 0 ((gro E M N S c k).1.getD j 0) = true
  | 0, j, h0, hj => by simp [gro] at hj; omega
  | k + 1, j, h0, hj => by
    by_cases h : k < (gro E M N S c k).1.length
    · have hg := gro_go h
      have hq' : (gro E M N S c (k + 1)).1 = (gro E M N S c k).1 ++ ext E M N (gro E M N S c k).2 ((gro E M N S c k).1.getD k 0) := by rw [hg]
      have ih := gro_par (E := E) (M := M) (N := N) (S := S) (c := c) k j h0
      rw [hq'] at hj ⊢
      generalize (gro E M N S c k).1 = q at *
      by_cases hjl : j < q.length
      · obtain ⟨i, hi, ha⟩ := ih hjl
        refine ⟨i, hi, ?_⟩
        rw [show (q ++ ext E M N (gro E M N S c k).2 (q.getD k 0)).getD i 0 = q.getD i 0 by simp [List.getD, List.getElem?_append_left (show i < q.length by omega)], show (q ++ ext E M N (gro E M N S c k).2 (q.getD k 0)).getD j 0 = q.getD j 0 by simp [List.getD, List.getElem?_append_left hjl]]
        exact ha
      · refine ⟨k, by omega, ?_⟩
        rw [show (q ++ ext E M N (gro E M N S c k).2 (q.getD k 0)).getD k 0 = q.getD k 0 by simp [List.getD, List.getElem?_append_left h], show (q ++ ext E M N (gro E M N S c k).2 (q.getD k 0)).getD j 0 = (ext E M N (gro E M N S c k).2 (q.getD k 0)).getD (j - q.length) 0 by simp [List.getD, List.getElem?_append_right (show q.length ≤ j by omega)]]
        rw [List.length_append] at hj
        exact (mem_ext.1 (getD_memN (show j - q.length < (ext E M N (gro E M N S c k).2 (q.getD k 0)).length by omega))).2.2
    · have e : gro E M N S c (k + 1) = gro E M N S c k := by simp only [gro]; rw [if_neg h]
      rw [e] at hj ⊢
      exact gro_par k j h0 hj
theorem reg_par {n c m : Nat} {l : List A} {j : Nat} (h0 : 0 < j) (hj : j < (reg n l c m).length) : ∃ i, i < j ∧ adjF (edl l) (2 * l.length) ((reg n l c m).getD i 0) 0 ((reg n l c m).getD j 0) = true := by
  have hlm : (reg n l c m).length = min m (gro (edl l) (2 * l.length) n (fun _ => false) c n).1.length := by unfold reg whole; rw [List.length_take]
  have hg : ∀ k, k < (reg n l c m).length → (reg n l c m).getD k 0 = (gro (edl l) (2 * l.length) n (fun _ => false) c n).1.getD k 0 := fun k hk => by
    have hk2 : k < m := by omega
    unfold reg whole
    simp [List.getD, hk2]
  obtain ⟨i, hi, ha⟩ := gro_par (E := edl l) (M := 2 * l.length) (N := n) (S := fun _ => false) (c := c) n j h0 (by omega)
  refine ⟨i, hi, ?_⟩
  rw [hg i (by omega), hg j hj]
  exact ha
/-- The marks of a list of vertices. -/
def mkq (n : Nat) (XI : List Int) : List Bool := (List.range n).map (fun u : Nat => decide ((u : Int) ∈ XI))
theorem mkq_len (n : Nat) (XI : List Int) : (mkq n XI).length = n := by simp [mkq]
theorem mkq_at {n : Nat} {XI : List Int} {u : Nat} (hu : u < n) : T3.mk (mkq n XI) u = decide ((u : Int) ∈ XI) := by
  unfold T3.mk mkq
  simp [List.getD, hu]
theorem mkq_bools {w : World} {b n : Nat} {XI : List Int} (h : TbV w b n 4 (marks XI)) : T3.Bools (· < w.heap.size) w (some ⟨b, 0, none⟩) (mkq n XI) := by
  refine .inr ⟨b, 0, rfl, h.lt, fun j hj => ?_⟩
  rw [mkq_len] at hj
  rw [Nat.zero_add, h.cell hj]
  unfold marks
  have := mkq_at (XI := XI) hj
  unfold T3.mk at this
  rw [this]
/-- In the graph of a region's vertices all have one leader. -/
theorem reg_lead {n c m : Nat} {l : List A} (hall : ∀ x ∈ l, (0 ≤ x.f ∧ x.f < n) ∧ (0 ≤ x.t ∧ x.t < n)) (hc : c < n) : ∀ j, j < (T3.hits (T3.mk (mkq n (ints (reg n l c m)))) n).length → T3.lead (T3.indA (T3.mk (mkq n (ints (reg n l c m)))) (l.map toT)) j = 0 := by
  have hpo : ∀ x, x ∈ l → 0 ≤ x.f ∧ 0 ≤ x.t := fun x hx => ⟨(hall x hx).1.1, (hall x hx).2.1⟩
  obtain ⟨_, r2, _⟩ := reg_sub (n := n) (c := c) (m := m) (l := l) hc
  have hq : ∀ u, u < n → (T3.mk (mkq n (ints (reg n l c m))) u = true ↔ u ∈ reg n l c m) := fun u hu => by rw [mkq_at hu, decide_eq_true_eq, mem_ints]
  have harc : ∀ u v, u ∈ reg n l c m → v ∈ reg n l c m → adjF (edl l) (2 * l.length) u 0 v = true → T3.lead (T3.indA (T3.mk (mkq n (ints (reg n l c m)))) (l.map toT)) (T3.hits (T3.mk (mkq n (ints (reg n l c m)))) u).length = T3.lead (T3.indA (T3.mk (mkq n (ints (reg n l c m)))) (l.map toT)) (T3.hits (T3.mk (mkq n (ints (reg n l c m)))) v).length := fun u v hu hv ha => by
    rw [← nr_adj hpo] at ha
    unfold nr at ha
    obtain ⟨x, hx, hn⟩ := List.any_eq_true.1 ha
    simp only [Bool.or_eq_true, Bool.and_eq_true, beq_iff_eq] at hn
    have hm : ∀ e1 : T3.mk (mkq n (ints (reg n l c m))) x.f.toNat = true, ∀ e2 : T3.mk (mkq n (ints (reg n l c m))) x.t.toNat = true, T3.ren (T3.mk (mkq n (ints (reg n l c m)))) (toT x) ∈ T3.indA (T3.mk (mkq n (ints (reg n l c m)))) (l.map toT) := fun e1 e2 => T3.mem_indA.2 ⟨toT x, List.mem_map.2 ⟨x, hx, rfl⟩, by unfold T3.both toT; rw [e1, e2]; rfl, rfl⟩
    have hu2 := (hq u (r2 u hu)).2 hu
    have hv2 := (hq v (r2 v hv)).2 hv
    rcases hn with ⟨e1, e2⟩ | ⟨e1, e2⟩
    · have f1 : x.f.toNat = u := by omega
      have f2 : x.t.toNat = v := by omega
      have h9 : T3.lead (T3.indA (T3.mk (mkq n (ints (reg n l c m)))) (l.map toT)) (T3.hits (T3.mk (mkq n (ints (reg n l c m)))) x.f.toNat).length = T3.lead (T3.indA (T3.mk (mkq n (ints (reg n l c m)))) (l.map toT)) (T3.hits (T3.mk (mkq n (ints (reg n l c m)))) x.t.toNat).length := T3.lead_arc (hm (by rw [f1]; exact hu2) (by rw [f2]; exact hv2))
      rw [f1, f2] at h9
      exact h9
    · have f1 : x.t.toNat = u := by omega
      have f2 : x.f.toNat = v := by omega
      have h9 : T3.lead (T3.indA (T3.mk (mkq n (ints (reg n l c m)))) (l.map toT)) (T3.hits (T3.mk (mkq n (ints (reg n l c m)))) x.f.toNat).length = T3.lead (T3.indA (T3.mk (mkq n (ints (reg n l c m)))) (l.map toT)) (T3.hits (T3.mk (mkq n (ints (reg n l c m)))) x.t.toNat).length := T3.lead_arc (hm (by rw [f2]; exact hv2) (by rw [f1]; exact hu2))
      rw [f1, f2] at h9
      exact h9.symm
  have hone : ∀ j, j < (reg n l c m).length → T3.lead (T3.indA (T3.mk (mkq n (ints (reg n l c m)))) (l.map toT)) (T3.hits (T3.mk (mkq n (ints (reg n l c m)))) ((reg n l c m).getD j 0)).length = T3.lead (T3.indA (T3.mk (mkq n (ints (reg n l c m)))) (l.map toT)) (T3.hits (T3.mk (mkq n (ints (reg n l c m)))) ((reg n l c m).getD 0 0)).length := by
    intro j
    induction j using Nat.strongRecOn with
    | _ j ih =>
      intro hj
      by_cases h0 : j = 0
      · rw [h0]
      · obtain ⟨i, hi, ha⟩ := reg_par (by omega) hj
        rw [← ih i hi (by omega)]
        exact (harc _ _ (getD_memN (by omega)) (getD_memN hj) ha).symm
  have hall2 : ∀ u, u ∈ reg n l c m → T3.lead (T3.indA (T3.mk (mkq n (ints (reg n l c m)))) (l.map toT)) (T3.hits (T3.mk (mkq n (ints (reg n l c m)))) u).length = T3.lead (T3.indA (T3.mk (mkq n (ints (reg n l c m)))) (l.map toT)) (T3.hits (T3.mk (mkq n (ints (reg n l c m)))) ((reg n l c m).getD 0 0)).length := fun u hu => by
    obtain ⟨i, hi, rfl⟩ := List.mem_iff_getElem.1 hu
    have := hone i hi
    rwa [show (reg n l c m).getD i 0 = (reg n l c m)[i] by simp [List.getD, hi]] at this
  intro j hj
  obtain ⟨v, hvn, hqv, _, hrv⟩ := T3.hits_idx hj
  obtain ⟨u, hun, hqu, _, hru⟩ := T3.hits_idx (show 0 < (T3.hits (T3.mk (mkq n (ints (reg n l c m)))) n).length by omega)
  have e1 := hall2 v ((hq v hvn).1 hqv)
  have e2 := hall2 u ((hq u hun).1 hqu)
  rw [hrv] at e1
  rw [hru] at e2
  have := (T3.lead_RT (T3.indA (T3.mk (mkq n (ints (reg n l c m)))) (l.map toT))).rle 0
  omega
theorem reg_hits {n c m : Nat} {l : List A} (hc : c < n) (hm : 1 ≤ m) : T3.hits (T3.mk (mkq n (ints (reg n l c m)))) n ≠ [] := by
  have : c ∈ reg n l c m := by
    obtain ⟨t, ht⟩ := gro_first (E := edl l) (M := 2 * l.length) (N := n) (S := fun _ => false) (c := c) n
    unfold reg whole
    rw [ht]
    obtain ⟨k, rfl⟩ : ∃ k, m = k + 1 := ⟨m - 1, by omega⟩
    simp
  exact T3.hits_some hc (by rw [mkq_at hc, decide_eq_true_eq, mem_ints]; exact this)
/-- All labels are 0. -/
theorem reg_labels {n c m : Nat} {l : List A} (hC : chkE n l = 0) (hc : c < n) (hm : 1 ≤ m) : ∀ x, x ∈ T3.partsL ((T3.hits (T3.mk (mkq n (ints (reg n l c m)))) n).length : Nat) (T3.indA (T3.mk (mkq n (ints (reg n l c m)))) (l.map toT)) → x = 0 := by
  obtain ⟨_, _, _, hall⟩ := chk_zero hC
  have hi := T3.chk_ind (q := T3.mk (mkq n (ints (reg n l c m)))) (by rw [chkE_T]; exact hC) (reg_hits (l := l) hc hm)
  intro x hx
  unfold T3.partsL at hx
  rw [if_pos hi, Int.toNat_natCast] at hx
  unfold T3.ints T3.labs at hx
  rw [List.map_map, List.mem_map] at hx
  obtain ⟨j, hj, rfl⟩ := hx
  have hj := List.mem_range.1 hj
  show ((T3.lab _ j : Nat) : Int) = 0
  unfold T3.lab
  rw [reg_lead hall hc j hj]
  rfl
theorem reg_whole {n c : Nat} {l : List A} (hc : c < n) (hn : n ≤ 1024) : reg n l c 1024 = whole (edl l) (2 * l.length) n (fun _ => false) c := by
  unfold reg
  refine List.take_of_length_le ?_
  have := gro_short (E := edl l) (M := 2 * l.length) (S := fun _ => false) hc n
  unfold whole
  omega
theorem ring_none {n c : Nat} {l : List A} (hall : ∀ x ∈ l, (0 ≤ x.f ∧ x.f < n) ∧ (0 ≤ x.t ∧ x.t < n)) (hc : c < n) : rgk l (ints (whole (edl l) (2 * l.length) n (fun _ => false) c)) n = [] := by
  have hpo : ∀ x, x ∈ l → 0 ≤ x.f ∧ 0 ≤ x.t := fun x hx => ⟨(hall x hx).1.1, (hall x hx).2.1⟩
  unfold rgk
  rw [List.filter_eq_nil_iff]
  intro v hv h
  have hv := List.mem_range.1 hv
  rw [Bool.and_eq_true] at h
  obtain ⟨h1, h2⟩ := h
  have h2 : ¬ (v : Int) ∈ ints (whole (edl l) (2 * l.length) n (fun _ => false) c) := by simpa using h2
  rw [mem_ints] at h2
  unfold bes at h1
  obtain ⟨y, hy, h⟩ := List.any_eq_true.1 h1
  simp only [Bool.or_eq_true, Bool.and_eq_true, beq_iff_eq, bne_iff_ne, ne_eq, decide_eq_decide] at h
  obtain ⟨⟨f0, f1⟩, t0, t1⟩ := hall y hy
  have key : ∀ u : Nat, u ∈ whole (edl l) (2 * l.length) n (fun _ => false) c → nr l u v = true → False := fun u hu ha => by
    rw [nr_adj hpo] at ha
    rcases whole_closed hc hu hv ha with h3 | h3
    · cases h3
    · exact h2 h3
  obtain ⟨hd, e | e⟩ := h
  · obtain ⟨u, hu⟩ : ∃ u : Nat, y.t = u := ⟨y.t.toNat, by omega⟩
    rw [e, hu, mem_ints, mem_ints] at hd
    have : u ∈ whole (edl l) (2 * l.length) n (fun _ => false) c := by
      by_cases h5 : u ∈ whole (edl l) (2 * l.length) n (fun _ => false) c
      · exact h5
      · exact absurd ⟨fun h => absurd h h2, fun h => absurd h h5⟩ hd
    refine key u this ?_
    unfold nr
    rw [List.any_eq_true]
    exact ⟨y, hy, by rw [e, hu]; simp⟩
  · obtain ⟨u, hu⟩ : ∃ u : Nat, y.f = u := ⟨y.f.toNat, by omega⟩
    rw [e, hu, mem_ints, mem_ints] at hd
    have : u ∈ whole (edl l) (2 * l.length) n (fun _ => false) c := by
      by_cases h5 : u ∈ whole (edl l) (2 * l.length) n (fun _ => false) c
      · exact h5
      · exact absurd ⟨fun h => absurd h h5, fun h => absurd h h2⟩ hd
    refine key u this ?_
    unfold nr
    rw [List.any_eq_true]
    exact ⟨y, hy, by rw [e, hu]; simp⟩
end Go.Proofs.Ytgkpmcpkobphpaa
