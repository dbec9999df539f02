/-
  NatcutParts. A cut parts, and each pair of it is needed: plain mathematics. The contract of the law's parted. What parted answers by a cut, and by a cut less one pair; an append inside a region that draws its order. NatcutParts.
-/
import Derived.Test.YtpgadcacimjlaaaLawBetween
import Derived.Deep.RegionLaw
import Derived.Maps.AppendAt
namespace Go.Proofs.Ytpgadcacimjlaaa
open Go.RowKit
theorem ndk_out {q : List Nat} {cr v : Nat} : ∀ k, k ≤ q.length → v ∉ q.take k → ndk q cr k v = 1
  | 0, _, _ => rfl
  | k + 1, hk, h => by
    rw [take_snoc (by omega)] at h
    simp only [List.mem_append, List.mem_singleton, not_or] at h
    simp only [ndk]
    rw [if_neg h.2]
    exact ndk_out k (by omega) h.1
theorem ndk_at {q : List Nat} {cr i : Nat} (hnd : q.Nodup) : ∀ k, k ≤ q.length → i < k → ndk q cr k (q.getD i 0) = if i < cr then 0 else 2 + i - cr
  | 0, _, h => absurd h (by omega)
  | k + 1, hk, h => by
    simp only [ndk]
    by_cases e : i = k
    · subst e; rw [if_pos rfl]
    · have hne : q.getD i 0 ≠ q.getD k 0 := fun he => by
        have h1 : i < q.length := by omega
        have h2 : k < q.length := by omega
        simp only [List.getD, List.getElem?_eq_getElem h1, List.getElem?_eq_getElem h2, Option.getD_some] at he
        exact (List.pairwise_iff_getElem.1 hnd i k h1 h2 (by omega)) he
      rw [if_neg hne]
      exact ndk_at hnd k (by omega) (by omega)
theorem nd_out {q : List Nat} {cr v : Nat} (h : v ∉ q) : nd q cr v = 1 := ndk_out _ (Nat.le_refl _) (by rw [List.take_length]; exact h)
theorem nd_in {q : List Nat} {cr v : Nat} (hnd : q.Nodup) (h : v ∈ q) : ∃ i, i < q.length ∧ v = q.getD i 0 ∧ nd q cr v = if i < cr then 0 else 2 + i - cr := by
  obtain ⟨i, hi, rfl⟩ := List.getElem_of_mem h
  refine ⟨i, hi, by simp [List.getD, List.getElem?_eq_getElem hi], ?_⟩
  have := ndk_at (cr := cr) hnd _ (Nat.le_refl q.length) hi
  rw [show q.getD i 0 = q[i] by simp [List.getD, List.getElem?_eq_getElem hi]] at this
  exact this
theorem nd_one {q : List Nat} {cr v : Nat} (hnd : q.Nodup) : nd q cr v = 1 ↔ v ∉ q := by
  refine ⟨fun h hm => ?_, nd_out⟩
  obtain ⟨i, _, _, e⟩ := nd_in (cr := cr) hnd hm
  rw [h] at e
  split at e <;> omega
theorem nd_zero {q : List Nat} {cr v : Nat} (hnd : q.Nodup) (h : nd q cr v = 0) : v ∈ q.take cr := by
  have hm : v ∈ q := Decidable.byContradiction fun hn => by rw [nd_out hn] at h; cases h
  obtain ⟨i, hi, rfl, e⟩ := nd_in (cr := cr) hnd hm
  rw [h] at e
  have hic : i < cr := Decidable.byContradiction fun hn => by rw [if_neg hn] at e; omega
  rw [List.mem_take_iff_getElem]
  exact ⟨i, by omega, by simp [List.getD, List.getElem?_eq_getElem hi]⟩
theorem nd_core {q : List Nat} {cr v : Nat} (hnd : q.Nodup) (h : v ∈ q.take cr) : nd q cr v = 0 := by
  rw [List.mem_take_iff_getElem] at h
  obtain ⟨i, hi, rfl⟩ := h
  have := ndk_at (cr := cr) (i := i) hnd _ (Nat.le_refl q.length) (by omega)
  rw [show q.getD i 0 = q[i] by simp [List.getD, List.getElem?_eq_getElem (show i < q.length by omega)], if_pos (by omega)] at this
  exact this
theorem nd_mid {q : List Nat} {cr v u : Nat} (hnd : q.Nodup) (h : nd q cr v = nd q cr u) (h2 : 2 ≤ nd q cr v) : v = u := by
  have hv : v ∈ q := Decidable.byContradiction fun hn => by rw [nd_out hn] at h2; omega
  have hu : u ∈ q := Decidable.byContradiction fun hn => by rw [nd_out hn] at h; omega
  obtain ⟨i, hi, rfl, ei⟩ := nd_in (cr := cr) hnd hv
  obtain ⟨j, hj, rfl, ej⟩ := nd_in (cr := cr) hnd hu
  rw [ei] at h h2
  rw [ej] at h
  have : i = j := by
    split at h
    · rw [if_pos (by assumption)] at h2; omega
    · split at h
      · rw [if_neg (by assumption)] at h2; omega
      · omega
  rw [this]
/-- An edge is of a pair. -/
theorem ed_pair {ps : List Pr} {D : Nat → Nat} {j : Nat} (hj : j < (eds ps D).length) : ∃ p, p ∈ ps ∧ D p.a ≠ D p.b ∧ (F6.ed (F6.edl (eds ps D)) j).c = 1 ∧ (((F6.ed (F6.edl (eds ps D)) j).f = D p.a ∧ (F6.ed (F6.edl (eds ps D)) j).t = D p.b) ∨ ((F6.ed (F6.edl (eds ps D)) j).f = D p.b ∧ (F6.ed (F6.edl (eds ps D)) j).t = D p.a)) := by
  rw [F6.edl_at hj]
  have hm : (eds ps D).getD j F6.A.zero ∈ eds ps D := by simp [List.getD, List.getElem?_eq_getElem hj]
  obtain ⟨p, hp, hx⟩ := List.mem_flatMap.1 hm
  unfold ed2 at hx
  split at hx
  · cases hx
  · rename_i hne
    simp only [List.mem_cons, List.not_mem_nil, or_false] at hx
    rcases hx with e | e
    · exact ⟨p, hp, hne, by rw [e], .inl (by rw [e]; simp)⟩
    · exact ⟨p, hp, hne, by rw [e], .inr (by rw [e]; simp)⟩
theorem pair_ed {ps : List Pr} {D : Nat → Nat} {p : Pr} (hp : p ∈ ps) (hne : D p.a ≠ D p.b) : (∃ j, j < (eds ps D).length ∧ (F6.ed (F6.edl (eds ps D)) j).f = D p.a ∧ (F6.ed (F6.edl (eds ps D)) j).t = D p.b) ∧ ∃ j, j < (eds ps D).length ∧ (F6.ed (F6.edl (eds ps D)) j).f = D p.b ∧ (F6.ed (F6.edl (eds ps D)) j).t = D p.a := by
  have key : ∀ x : F6.A, x ∈ eds ps D → ∃ j, j < (eds ps D).length ∧ (F6.ed (F6.edl (eds ps D)) j).f = x.f.toNat ∧ (F6.ed (F6.edl (eds ps D)) j).t = x.t.toNat := fun x hx => by
    obtain ⟨j, hj, e⟩ := List.getElem_of_mem hx
    refine ⟨j, hj, ?_⟩
    rw [F6.edl_at hj, show (eds ps D).getD j F6.A.zero = x by simp [List.getD, List.getElem?_eq_getElem hj, e]]
    exact ⟨rfl, rfl⟩
  have m1 : (⟨(D p.a : Nat), (D p.b : Nat), 1⟩ : F6.A) ∈ eds ps D := List.mem_flatMap.2 ⟨p, hp, by unfold ed2; rw [if_neg hne]; simp⟩
  have m2 : (⟨(D p.b : Nat), (D p.a : Nat), 1⟩ : F6.A) ∈ eds ps D := List.mem_flatMap.2 ⟨p, hp, by unfold ed2; rw [if_neg hne]; simp⟩
  exact ⟨by simpa using key _ m1, by simpa using key _ m2⟩
section
variable {n : Nat} {l : List A} {c m : Nat} {fl rk : Nat → Int}
/-- The pairs that a cut leaves. -/
def leftP (n : Nat) (l : List A) (c m : Nat) (rk : Nat → Int) : List Pr := (prl l).filter (fun p => !decide (p ∈ cutP n l c m rk))
theorem left_same {p : Pr} (h : p ∈ leftP n l c m rk) : F6.side rk (dN n l c m p.a) = F6.side rk (dN n l c m p.b) := by
  obtain ⟨h1, h2⟩ := List.mem_filter.1 h
  have h3 : p ∉ cutP n l c m rk := by simpa using h2
  refine Decidable.byContradiction fun hn => h3 (List.mem_filter.2 ⟨h1, ?_⟩)
  simpa using hn
theorem same_left {p : Pr} (h1 : p ∈ prl l) (h : F6.side rk (dN n l c m p.a) = F6.side rk (dN n l c m p.b)) : p ∈ leftP n l c m rk := by
  refine List.mem_filter.2 ⟨h1, ?_⟩
  have h3 : p ∉ cutP n l c m rk := fun hm => by
    have := (List.mem_filter.1 hm).2
    rw [h] at this
    simp at this
  simpa using h3
/-- A cut parts: what is reached and what is not have no leader in common. -/
theorem cut_parts {u v : Nat} (h : T3.lead (arQ (leftP n l c m rk)) u = T3.lead (arQ (leftP n l c m rk)) v) : F6.side rk (dN n l c m u) = F6.side rk (dN n l c m v) := by
  have key := T3.lead_const (S := fun x => if F6.side rk (dN n l c m x) = true then 1 else 0) (l := arQ (leftP n l c m rk)) (fun x hx => by
    obtain ⟨p, hp, rfl⟩ := List.mem_map.1 hx
    have := left_same hp
    show (if F6.side rk (dN n l c m (p.a : Int).toNat) = true then 1 else 0) = (if F6.side rk (dN n l c m (p.b : Int).toNat) = true then 1 else 0)
    rw [Int.toNat_natCast, Int.toNat_natCast, this])
  have e := (key u).symm
  rw [h] at e
  have e := e.trans (key v)
  cases h1 : F6.side rk (dN n l c m u) <;> cases h2 : F6.side rk (dN n l c m v) <;> simp [h1, h2] at e ⊢
theorem left_lead {p : Pr} (h : p ∈ leftP n l c m rk) : T3.lead (arQ (leftP n l c m rk)) p.a = T3.lead (arQ (leftP n l c m rk)) p.b := by
  have := T3.lead_arc (l := arQ (leftP n l c m rk)) (x := ⟨(p.a : Int), (p.b : Int), 0⟩) (List.mem_map.2 ⟨_, h, rfl⟩)
  simpa using this
/-- A step in the network is a pair. -/
theorem step_pair {k : Nat} (hk : k < 2 * (eN n l c m).length) : ∃ p, p ∈ prl l ∧ dN n l c m p.a ≠ dN n l c m p.b ∧ ((F6.frm (F6.edl (eN n l c m)) k = dN n l c m p.a ∧ F6.tto (F6.edl (eN n l c m)) k = dN n l c m p.b) ∨ (F6.frm (F6.edl (eN n l c m)) k = dN n l c m p.b ∧ F6.tto (F6.edl (eN n l c m)) k = dN n l c m p.a)) := by
  obtain ⟨p, hp, hne, _, h⟩ := ed_pair (ps := prl l) (D := dN n l c m) (j := k / 2) (show k / 2 < (eN n l c m).length by omega)
  refine ⟨p, hp, hne, ?_⟩
  have h' : ((F6.ed (F6.edl (eN n l c m)) (k / 2)).f = dN n l c m p.a ∧ (F6.ed (F6.edl (eN n l c m)) (k / 2)).t = dN n l c m p.b) ∨ ((F6.ed (F6.edl (eN n l c m)) (k / 2)).f = dN n l c m p.b ∧ (F6.ed (F6.edl (eN n l c m)) (k / 2)).t = dN n l c m p.a) := h
  unfold F6.frm F6.tto
  split
  · exact h'
  · rcases h' with ⟨e1, e2⟩ | ⟨e1, e2⟩
    · exact .inr ⟨e2, e1⟩
    · exact .inl ⟨e2, e1⟩
/-- What is reached is connected with the core by what the cut leaves. -/
theorem near_core (hc : c < n) (hf : Cf n l c m fl rk) : ∀ (d : Nat) (x : Nat), rk (dN n l c m x) = (d : Int) → ∃ v, v ∈ core n l c m ∧ T3.lead (arQ (leftP n l c m rk)) x = T3.lead (arQ (leftP n l c m rk)) v := by
  have hnd := reg_nodup (l := l) (m := m) hc
  intro d
  induction d with
  | zero =>
    intro x hx
    rcases hf.rank.par _ (dN_lt n l c m x) (by rw [hx]; decide) with h0 | ⟨k, _, _, _, h4, h5⟩
    · have := nd_zero hnd h0
      refine ⟨x, ?_, rfl⟩
      unfold core
      rw [core_len] at this
      exact this
    · rw [hx] at h5; omega
  | succ d ih =>
    intro x hx
    rcases hf.rank.par _ (dN_lt n l c m x) (by rw [hx]; omega) with h0 | ⟨k, hk, h2, _, h4, h5⟩
    · rw [h0, hf.rank.s0] at hx; omega
    · obtain ⟨p, hp, hne, hpp⟩ := step_pair hk
      have hx2 : 2 ≤ dN n l c m x := by
        have e0 : dN n l c m x ≠ 0 := fun e => by rw [e, hf.rank.s0] at hx; omega
        have e1 : dN n l c m x ≠ 1 := fun e => by rw [e, hf.far] at hx; omega
        omega
      have hfr : rk (F6.frm (F6.edl (eN n l c m)) k) = (d : Int) := by rw [hx] at h5; omega
      have s1 : F6.side rk (dN n l c m x) = true := F6.side_true.2 (by rw [hx]; omega)
      have s2 : F6.side rk (F6.frm (F6.edl (eN n l c m)) k) = true := F6.side_true.2 (by rw [hfr]; omega)
      rcases hpp with ⟨e1, e2⟩ | ⟨e1, e2⟩
      · have ex : x = p.b := nd_mid hnd (h2.symm.trans e2) hx2
        rw [e1] at hfr s2
        obtain ⟨v, hv, hl⟩ := ih p.a hfr
        refine ⟨v, hv, ?_⟩
        rw [ex, ← left_lead (same_left hp (by rw [s2, ← ex, s1]))]
        exact hl
      · have ex : x = p.a := nd_mid hnd (h2.symm.trans e2) hx2
        rw [e1] at hfr s2
        obtain ⟨v, hv, hl⟩ := ih p.b hfr
        refine ⟨v, hv, ?_⟩
        rw [ex, left_lead (same_left hp (by rw [s2, ← ex, s1]))]
        exact hl
theorem acr_neg {E : List F6.Ed} {R : Nat → Bool} {j0 : Nat} : ∀ k, (∀ j, j < k → (if R (F6.ed E j).f = true then fl j else 0) - (if R (F6.ed E j).t = true then fl j else 0) ≤ 0) → F6.acr E fl R k ≤ 0 ∧ (j0 < k → (if R (F6.ed E j0).f = true then fl j0 else 0) - (if R (F6.ed E j0).t = true then fl j0 else 0) ≤ -1 → F6.acr E fl R k ≤ -1)
  | 0, _ => ⟨by simp [F6.acr], fun h => absurd h (by omega)⟩
  | k + 1, h => by
    obtain ⟨h1, h2⟩ := acr_neg (j0 := j0) k (fun j hj => h j (by omega))
    have h3 := h k (by omega)
    simp only [F6.acr]
    refine ⟨by omega, fun hj hc => ?_⟩
    by_cases e : j0 = k
    · subst e; omega
    · have := h2 (by omega) hc; omega
/-- Beyond a pair of the cut the outside is connected by what the cut leaves. -/
theorem far_out (hn : n ≤ 1024) (hl : l.length ≤ 8192) (hoa : ∀ x, x ∈ l → (0 ≤ x.f ∧ x.f < (n : Int)) ∧ (0 ≤ x.t ∧ x.t < (n : Int))) (hc : c < n) (hm : 1 ≤ m) (hf : Cf n l c m fl rk) {p : Pr} (hp : p ∈ prl l) {u v : Nat} (huv : (u = p.a ∧ v = p.b) ∨ (u = p.b ∧ v = p.a)) (hu : F6.side rk (dN n l c m u) = true) (hv : F6.side rk (dN n l c m v) = false) :
    ∃ x, x < n ∧ x ∉ reg n l c m ∧ T3.lead (arQ (leftP n l c m rk)) x = T3.lead (arQ (leftP n l c m rk)) v := by
  have hnd := reg_nodup (l := l) (m := m) hc
  obtain ⟨_, ok⟩ := eN_ok (m := m) hn hl hc hm
  have hend := hf.rank.stop hf.flow (F6.edl_len _) hf.far
  have hpl := prl_lt hoa hp
  have hvn : v < n := by rcases huv with ⟨_, e⟩ | ⟨_, e⟩ <;> omega
  have hne : dN n l c m p.a ≠ dN n l c m p.b := fun e => by
    rcases huv with ⟨e1, e2⟩ | ⟨e1, e2⟩
    · rw [e1, e] at hu; rw [e2, hu] at hv; cases hv
    · rw [e1, ← e] at hu; rw [e2, hu] at hv; cases hv
  obtain ⟨L, hL⟩ : ∃ L, T3.lead (arQ (leftP n l c m rk)) = L := ⟨_, rfl⟩
  obtain ⟨R, hR⟩ : ∃ R : Nat → Bool, ∀ y, R y = true ↔ F6.side rk y = false ∧ ∃ x, x < n ∧ dN n l c m x = y ∧ L x = L v := ⟨fun y => !F6.side rk y && (List.range n).any (fun x => decide (dN n l c m x = y) && decide (L x = L v)), fun y => by simp⟩
  rw [hL]
  by_cases h1 : R 1 = true
  · obtain ⟨_, x, hx, e, hlx⟩ := (hR 1).1 h1
    exact ⟨x, hx, (nd_one hnd).1 e, hlx⟩
  exfalso
  have hR0 : R 0 = false := by
    rw [Bool.eq_false_iff]
    intro h
    have := ((hR 0).1 h).1
    rw [hend.rs] at this
    cases this
  have hzero : F6.acr (F6.edl (eN n l c m)) fl R (F6.edl (eN n l c m)).length = 0 := by
    rw [← F6.sumV_net _ fl R (nN n l c m) _ (fun j hj => ok.g.ends j hj), F6.sumV_congr _ (h := fun _ => 0) (fun y hy => ?_), F6.sumV_zero]
    by_cases e : R y = true
    · rw [if_pos e]
      exact hf.flow.mid y hy (fun e0 => by rw [e0, hR0] at e; cases e) (fun e0 => h1 (e0 ▸ e))
    · rw [if_neg e]
  have hj0 : ∃ j, j < (eN n l c m).length ∧ (F6.ed (F6.edl (eN n l c m)) j).f = dN n l c m u ∧ (F6.ed (F6.edl (eN n l c m)) j).t = dN n l c m v := by
    have := pair_ed (D := dN n l c m) hp hne
    rcases huv with ⟨rfl, rfl⟩ | ⟨rfl, rfl⟩
    · exact this.1
    · exact this.2
  obtain ⟨j0, hj0, ef, et⟩ := hj0
  have hRu : R (dN n l c m u) = false := by
    rw [Bool.eq_false_iff]
    intro h
    have := ((hR _).1 h).1
    rw [hu] at this
    cases this
  have hRv : R (dN n l c m v) = true := (hR _).2 ⟨hv, v, hvn, rfl, rfl⟩
  have hfull := hend.full
  have hc0 : fl j0 = 1 := by
    obtain ⟨_, _, _, hc1, _⟩ := ed_pair (ps := prl l) (D := dN n l c m) (j := j0) hj0
    have := (hfull j0 (by rw [F6.edl_len]; exact hj0)).1 (by rw [ef]; exact hu) (by rw [et]; exact hv)
    rw [this]
    exact hc1
  have hneg := (acr_neg (fl := fl) (E := F6.edl (eN n l c m)) (R := R) (j0 := j0) (F6.edl (eN n l c m)).length (fun j hj => by
    have hj' : j < (eN n l c m).length := by rw [F6.edl_len] at hj; exact hj
    by_cases r2 : R (F6.ed (F6.edl (eN n l c m)) j).t = true
    · have := hf.flow.lo j hj
      rw [if_pos r2]
      split <;> omega
    · rw [if_neg r2]
      by_cases r1 : R (F6.ed (F6.edl (eN n l c m)) j).f = true
      · rw [if_pos r1]
        obtain ⟨s1, x, hx, ex, hlx⟩ := (hR _).1 r1
        have hx2 : 2 ≤ dN n l c m x := by
          have e0 : dN n l c m x ≠ 0 := fun e => by rw [← ex, e, hR0] at r1; cases r1
          have e1 : dN n l c m x ≠ 1 := fun e => by rw [← ex, e] at r1; exact h1 r1
          omega
        cases s2 : F6.side rk (F6.ed (F6.edl (eN n l c m)) j).t with
        | true => have := (hfull j hj).2 s1 s2; omega
        | false =>
          exfalso
          apply r2
          obtain ⟨p', hp', _, _, hpp⟩ := ed_pair (ps := prl l) (D := dN n l c m) (j := j) hj'
          have hpl' := prl_lt hoa hp'
          rcases hpp with ⟨a1, a2⟩ | ⟨a1, a2⟩
          · have a1 : (F6.ed (F6.edl (eN n l c m)) j).f = dN n l c m p'.a := a1
            have a2 : (F6.ed (F6.edl (eN n l c m)) j).t = dN n l c m p'.b := a2
            have exa : x = p'.a := nd_mid hnd (ex.trans a1) hx2
            rw [a2] at s2 ⊢
            rw [a1] at s1
            refine (hR _).2 ⟨s2, p'.b, hpl'.2, rfl, ?_⟩
            rw [← hlx, exa, ← hL]
            exact (left_lead (same_left hp' (by rw [s1, s2]))).symm
          · have a1 : (F6.ed (F6.edl (eN n l c m)) j).f = dN n l c m p'.b := a1
            have a2 : (F6.ed (F6.edl (eN n l c m)) j).t = dN n l c m p'.a := a2
            have exa : x = p'.b := nd_mid hnd (ex.trans a1) hx2
            rw [a2] at s2 ⊢
            rw [a1] at s1
            refine (hR _).2 ⟨s2, p'.a, hpl'.1, rfl, ?_⟩
            rw [← hlx, exa, ← hL]
            exact left_lead (same_left hp' (by rw [s1, s2]))
      · rw [if_neg r1]; omega)).2 (by rw [F6.edl_len]; exact hj0) (by rw [ef, et, hRu, hRv, hc0]; decide)
  omega
end
end Go.Proofs.Ytpgadcacimjlaaa
namespace Go.Proofs.Ytpgadcacimjlaaa
open Go.RowKit
theorem hit_step {I : Nat → Bool} {L : List Int} {v u : Nat} (h : (List.range u).any (fun u => !I u && (L.getD u 0 == L.getD v 0)) = false) (h2 : (!I u && (L.getD u 0 == L.getD v 0)) = false) : (List.range (u + 1)).any (fun u => !I u && (L.getD u 0 == L.getD v 0)) = false := by
  rw [List.range_succ, List.any_append, h]
  simpa using h2
/-- Some vertex of a list is of a fragment with one outside. -/
def ptB (n : Nat) (I : Nat → Bool) (L : List Int) (cq : List Nat) : Bool := cq.any (fun v => (List.range n).any (fun u => !I u && (L.getD u 0 == L.getD v 0)))
set_option maxRecDepth 100000 in
set_option maxHeartbeats 3200000 in
theorem parted_any (n : Nat) (a : Option Addr) (l : List A) (cap : Nat) (b : Option Addr) (ms : List Pi2) (bc : Nat) (qa : Option Addr) (cq : List Nat) (qc bi : Nat) (I : Nat → Bool) (w : World) (hC : chkE n l = 0) (hml : ms.length ≤ 9223372036854775807) (hE : frE n l ms = 0) (hcl : cq.length ≤ 1024) (hcn : ∀ v, v ∈ cq → v < n) (hr : Arcs w a l) (hm : PrI w b ms) (hq : Ints w qa (ints cq)) (ht : TbV w bi n 4 (fun v => .bool (I v))) :
    Calls Try.prog 10 #[.agg #[.int .i64 n, .slice a l.length cap], .slice b ms.length bc, .slice qa cq.length qc, .slice (some ⟨bi, 0, none⟩) n n] w fun e w' => e = .returned (.int .i64 (if ptB n I (frL n l ms) cq = true then 1 else 0)) ∧ Below w.heap.size w w' := by
  have hb0 : Below w.heap.size w (w.alloc (.cells #[.int .i64 n, .slice a l.length cap] 24)) := (Below.refl _ _).alloc (Nat.le_refl _) _
  have hg := heap_top w (.cells #[.int .i64 n, .slice a l.length cap] 24)
  have HR := Lib.hid (hr.on hb0)
  have HM := Lib.hid (hm.on hb0)
  have HQ := Lib.hid (hq.on hb0)
  have HT := Lib.hid (ht.same (hb0.block bi ht.lt))
  have hwz : w.heap.size ≤ (w.alloc (.cells #[.int .i64 n, .slice a l.length cap] 24)).heap.size := hb0.size
  have HB0 := Lib.hid hb0
  have HCN := Lib.hid hcn
  obtain ⟨h1n, hn, hlb, _⟩ := chk_zero hC
  have hn' : n ≤ 1024 := by omega
  obtain ⟨L, HL⟩ := named (frL n l ms)
  have HLL : Hid (L.length = n) := by
    show _ = _
    rw [← HL.out]
    unfold frL
    rw [if_pos hE]
    exact (tdy_parts (others_ok hC ms)).2.1
  have HFR := Lib.hid (frag_any n a l cap b ms bc (w.alloc (.cells #[.int .i64 n, .slice a l.length cap] 24)) (by omega) hml HR.out HM.out)
  rw [hE, HL.out] at HFR
  rw [HL.out]
  obtain ⟨V, HV⟩ := named (ptB n I L cq)
  obtain ⟨Z, HZ⟩ := named (if ptB n I L cq = true then (1 : Int) else 0)
  rw [HZ.out]
  clear hb0 hr hm hq ht hcn
  generalize hp : w.heap.size = p at *
  go_enter Try.func10, Try.ntmps10
  go_wp2_with fail
  generalize hW : w.alloc (.cells #[.int .i64 n, .slice a l.length cap] 24) = W at *
  clear hW
  refine HFR.out.mono ?_
  rintro e w1 ⟨a1, c1, rfl, hown1, hb1⟩
  have HB1 : Hid (Below p w w1) := HB0.out.trans (hb1.mono hwz)
  have HI1 : Hid (Ints w1 a1 L) := own_intsI hown1
  have HQ1 := Lib.hid (HQ.out.on hb1)
  have HT1 := Lib.hid (HT.out.same (hb1.block bi HT.out.lt))
  have hwz1 : p ≤ w1.heap.size := Nat.le_trans hwz hb1.size
  clear hb1 hown1 hg HFR HR HM HQ HT
  obtain ⟨ix, ox, hix⟩ := HQ1.out.get
  have HIX := Lib.hid hix
  obtain ⟨iz, oz, hiz⟩ := HI1.out.get
  have HIZ := Lib.hid hiz
  clear hix hiz
  generalize hQ : w1.heap.size = Q at *
  go_wp2_with fail
  go_loopw [24] (fun i wr => ∃ (k : Nat), k ≤ cq.length ∧ i = .int .i64 k ∧ Hid (ptB n I L (cq.take k) = false) ∧ Hid (Below Q w1 wr)) (fun i _ => cq.length - (intOf i).toNat)
  case atStart => exact ⟨0, Nat.zero_le _, rfl, rfl, Below.refl _ _⟩
  case round =>
    obtain ⟨k, hk, rfl, HK, HBR⟩ := hrel
    by_cases hlk : k < cq.length
    · obtain ⟨rfl, hbl, hat⟩ := HIX.out (by rw [ints_len]; omega)
      have hlk' : (k : Int) < cq.length := by omega
      have y0 := (HBR.out.cell (p := ⟨ix, ox + k, none⟩) hbl).trans (hat k (by rw [ints_len]; exact hlk))
      rw [ints_getD hlk] at y0
      have hvn : cq.getD k 0 < n := HCN.out _ (by simp [List.getD, List.getElem?_eq_getElem hlk])
      have HTS := Lib.hid (take_snoc hlk)
      have HME : Hid (cq.getD k 0 ∈ cq) := by show _ ∈ _; simp [List.getD, List.getElem?_eq_getElem hlk]
      clear hat
      generalize cq.getD k 0 = v at *
      go_wp2_with fail
      generalize wr = w2 at *
      go_loopw [30] (fun i wr => ∃ (u : Nat), u ≤ L.length ∧ i = .int .i64 u ∧ Hid ((List.range u).any (fun u => !I u && (L.getD u 0 == L.getD v 0)) = false) ∧ Hid (Below Q w1 wr)) (fun i _ => L.length - (intOf i).toNat)
      case atStart => exact ⟨0, Nat.zero_le _, rfl, rfl, HBR⟩
      case round =>
        obtain ⟨u, hu, rfl, HU, HBU⟩ := hrel
        have hLn : L.length = n := HLL.out
        by_cases hlu : u < L.length
        · obtain ⟨rfl, hbz, haz⟩ := HIZ.out (by omega)
          have hlu' : (u : Int) < L.length := by omega
          have hun' : (u : Int) < n := by omega
          have hvn' : (v : Int) < L.length := by omega
          have d1 := (HBU.out.cell (p := ⟨iz, oz + u, none⟩) hbz).trans (haz u hlu)
          have d2 := (HBU.out.cell (p := ⟨iz, oz + v, none⟩) hbz).trans (haz v (by omega))
          have d3 := (HT1.out.same (HBU.out.block bi (hQ ▸ HT1.out.lt))).cell (show u < n by omega)
          have HST := Lib.hid (hit_step HU.out)
          have HSU : Hid (I u = false → L.getD u 0 = L.getD v 0 → Z = 1) := fun h1 h2 => by
            rw [← HZ.out, if_pos]
            unfold ptB
            rw [List.any_eq_true]
            refine ⟨v, HME.out, ?_⟩
            rw [List.any_eq_true]
            exact ⟨u, List.mem_range.2 (by omega), by rw [h1, h2]; simp⟩
          clear haz hLn
          generalize L.getD u 0 = tu at *
          generalize L.getD v 0 = tv at *
          cases hiu : I u
          · rw [hiu] at d3 HST
            by_cases htt : tu = tv
            · have e1 : (tu == tv) = true := by simpa using htt
              have HZ1 : Hid (Z = 1) := HSU.out hiu htt
              clear htt
              go_wp2_with fail
              go_quiet (fail)
              have HBN : Hid (Below Q w1 (wr.drewN nq)) := ⟨HBU.out.os, HBU.out.tape, HBU.out.output, HBU.out.size, HBU.out.block⟩
              generalize hUN : wr.drewN nq = UN at *
              go_wp2_with fail
              go_ret
              exact ⟨by rw [HZ1.out]; rfl, HB1.out.trans (HBN.out.mono hwz1)⟩
            · have e1 : (tu == tv) = false := by simpa using htt
              have HS2 := Lib.hid (HST.out (by rw [e1]; rfl))
              clear htt
              go_wp2_with fail
              go_quiet (fail)
              have HBN : Hid (Below Q w1 (wr.drewN nq)) := ⟨HBU.out.os, HBU.out.tape, HBU.out.output, HBU.out.size, HBU.out.block⟩
              generalize hUN : wr.drewN nq = UN at *
              go_wp2_with fail
              exact ⟨⟨u + 1, by omega, by simp, HS2, HBN⟩, by simp [intOf]; omega⟩
          · rw [hiu] at d3 HST
            have HS2 := Lib.hid (HST.out rfl)
            go_wp2_with fail
            go_quiet (fail)
            have HBN : Hid (Below Q w1 (wr.drewN nq)) := ⟨HBU.out.os, HBU.out.tape, HBU.out.output, HBU.out.size, HBU.out.block⟩
            generalize hUN : wr.drewN nq = UN at *
            go_wp2_with fail
            exact ⟨⟨u + 1, by omega, by simp, HS2, HBN⟩, by simp [intOf]; omega⟩
        · have hlu' : ¬ (u : Int) < L.length := by omega
          have eu : u = n := by omega
          rw [eu] at HU
          have HK2 : Hid (ptB n I L (cq.take (k + 1)) = false) := by
            show _ = _
            have hk1 := HK.out
            unfold ptB at hk1 ⊢
            rw [HTS.out, List.any_append, hk1]
            simpa using HU.out
          clear eu hLn
          go_wp2_with fail
          exact ⟨⟨k + 1, by omega, by simp, HK2, HBU⟩, by simp [intOf]; omega⟩
    · have e0 : cq.take k = cq := List.take_of_length_le (by omega)
      have hlk' : ¬ (k : Int) < cq.length := by omega
      rw [e0] at HK
      have HZ0 : Hid (Z = 0) := by show _ = _; rw [← HZ.out, if_neg (by rw [HK.out]; decide)]
      clear e0
      go_wp2_with fail
      go_ret
      exact ⟨by rw [HZ0.out]; rfl, HB1.out.trans (HBR.out.mono hwz1)⟩
end Go.Proofs.Ytpgadcacimjlaaa
namespace Go.Proofs.Ytpgadcacimjlaaa
open Go.RowKit
theorem step_append_own {P : Program} {ops : Array Oper} {o : Oper} {a : Act} {w : World} {K : Act → World → Prop} {Q : Exit → Act → World → Prop} {E : Prop}
    (hg : o.guard = none) (s x : Operand) (t : TypeId) (hop : o.op = Op.call { callee := Callee.builtin Builtin.append, args := #[s, x], argTypes := #[t, t] })
    (base : Nat) (e : TypeId) (i : TypeInfo) (z : Value) (size bytes : Nat) (ht : P.underlying t = some (.slice e)) (hi : P.info? e = some i) (hz : i.zero = some z)
    (hsize : i.size = size) (hby : i.bytes = bytes) (hzs : z.cells.size = size) (hsz : 0 < size)
    (v : Value) (n : Nat) (xs : List Value) (hs : a.eval s = v) (hown : w.ownsRow base e size v n xs)
    (ad : Addr) (m c : Nat) (news : List Value) (hx : a.eval x = .slice (some ad) m c) (hl : news.length = m * size) (hnews : ∀ j u, news[j]? = some u → w.cell? (ad.add j) = some u) (h1 : ∀ u ∈ news, u.oneCell' = true)
    (h63 : n + m ≤ maxLen) (hbytes : (n + m) * bytes ≤ 140737488355328) (hbase : base ≤ w.heap.size)
    (hK : ∀ v' w', w'.ownsRow base e size v' (n + m) (xs ++ news) → w.grownBy w' v.ownBlock → K (a.put o.dst v') w') :
    if Region.wanted o (yielded ops a.tmps) = true then Oper.wp P o a w K Q else E := by
  have hw : Region.wanted o (yielded ops a.tmps) = true := by simp [Region.wanted, hg]
  rw [if_pos hw]
  obtain ⟨v', w', hrun, r1, r2, _, _⟩ := run_append_own_at (P := P) w base t o.type e i z size bytes ht hi hz hsize hby hzs hsz v n xs hown ad m c news hl hnews h1 h63 hbytes hbase
  unfold Oper.wp
  simp [execOp, hop, resolve, invoke, builtin, hs, hx, hrun, Result.andThen]
  exact hK v' w' r1 r2
section
variable {n : Nat} {l : List A} {c m : Nat} {fl rk : Nat → Int}
theorem others_toI (l : List A) (xs : List Pr) : others l (xs.map toI) = (prl l).filter (fun p => !decide (p ∈ xs)) := by unfold others; rw [toI_nat]
theorem frL_good {xs : List Pr} (hC : chkE n l = 0) (hs : ∀ p, p ∈ xs → p ∈ prl l) (hl : xs.length ≤ 16384) : ∀ v, v < n → (frL n l (xs.map toI)).getD v 0 = (T3.lab (T3.lead (arQ ((prl l).filter (fun p => !decide (p ∈ xs))))) v : Nat) := fun v hv => by
  unfold frL
  rw [if_pos (frE_good hC hs hl), (tdy_parts (others_ok hC _)).2.2 v hv, others_toI]
/-- By the cut's marks no vertex of the core is of a fragment with one outside. -/
theorem pt_false (hC : chkE n l = 0) (hc : c < n) (hf : Cf n l c m fl rk) : ptB n (fun u => decide (u ∈ reg n l c m)) (frL n l ((cutP n l c m rk).map toI)) (core n l c m) = false := by
  have hnd := reg_nodup (l := l) (m := m) hc
  have hsub : ∀ p, p ∈ cutP n l c m rk → p ∈ prl l := fun p hp => (List.mem_filter.1 hp).1
  have hlen : (cutP n l c m rk).length ≤ 16384 := Nat.le_trans (List.length_filter_le _ _) (by have := prl_len l; have := (chk_zero hC).2.2.1; omega)
  rw [Bool.eq_false_iff]
  intro h
  unfold ptB at h
  obtain ⟨v, hv, h⟩ := List.any_eq_true.1 h
  obtain ⟨u, hu, h⟩ := List.any_eq_true.1 h
  have hun : u < n := List.mem_range.1 hu
  simp only [Bool.and_eq_true, Bool.not_eq_true', decide_eq_false_iff_not, beq_iff_eq] at h
  obtain ⟨hur, he⟩ := h
  have hvr : v ∈ reg n l c m := List.mem_of_mem_take hv
  have hvn : v < n := reg_lt hc v hvr
  rw [frL_good hC hsub hlen u hun, frL_good hC hsub hlen v hvn] at he
  have he' : T3.lab (T3.lead (arQ (leftP n l c m rk))) u = T3.lab (T3.lead (arQ (leftP n l c m rk))) v := by exact_mod_cast he
  have h1 := cut_parts (T3.lab_lead (T3.lead_RT _) he')
  have du : dN n l c m u = 1 := nd_out hur
  have dv : dN n l c m v = 0 := by
    refine nd_core hnd ?_
    unfold core at hv
    rw [core_len]
    exact hv
  have hend := hf.rank.stop hf.flow (F6.edl_len _) hf.far
  rw [du, dv, hend.rs, hend.rt] at h1
  cases h1
/-- By fewer marks some vertex of it is. -/
theorem pt_true (hC : chkE n l = 0) (hc : c < n) (hm : 1 ≤ m) (hf : Cf n l c m fl rk) {p : Pr} {less : List Pr} (hp : p ∈ cutP n l c m rk) (hl1 : ∀ q, q ∈ less → q ∈ cutP n l c m rk) (hl2 : p ∉ less) (hl3 : less.length ≤ 16384) : ptB n (fun u => decide (u ∈ reg n l c m)) (frL n l (less.map toI)) (core n l c m) = true := by
  obtain ⟨_, hn, hlb, hoa⟩ := chk_zero hC
  have hsub : ∀ q, q ∈ less → q ∈ prl l := fun q hq => (List.mem_filter.1 (hl1 q hq)).1
  obtain ⟨hpp, hside⟩ := List.mem_filter.1 hp
  have key : ∀ u v, ((u = p.a ∧ v = p.b) ∨ (u = p.b ∧ v = p.a)) → F6.side rk (dN n l c m u) = true → F6.side rk (dN n l c m v) = false → ptB n (fun u => decide (u ∈ reg n l c m)) (frL n l (less.map toI)) (core n l c m) = true := fun u v huv hu hv => by
    obtain ⟨x, hx, hxr, hxl⟩ := far_out (by omega) hlb hoa hc hm hf hpp huv hu hv
    have hrk : ∃ d : Nat, rk (dN n l c m u) = (d : Int) := by
      rcases hf.rank.pos _ (dN_lt n l c m u) with h | ⟨h, _⟩
      · exact absurd h (F6.side_true.1 hu)
      · exact ⟨(rk (dN n l c m u)).toNat, by omega⟩
    obtain ⟨d, hd⟩ := hrk
    obtain ⟨y, hy, hyl⟩ := near_core hc hf d u hd
    have hyn : y < n := reg_lt hc y (List.mem_of_mem_take hy)
    obtain ⟨L2, hL2⟩ : ∃ L2, T3.lead (arQ ((prl l).filter (fun p => !decide (p ∈ less)))) = L2 := ⟨_, rfl⟩
    have arc2 : ∀ q, q ∈ prl l → q ∉ less → L2 q.a = L2 q.b := fun q hq hn => by
      have := T3.lead_arc (l := arQ ((prl l).filter (fun p => !decide (p ∈ less)))) (x := ⟨(q.a : Int), (q.b : Int), 0⟩) (List.mem_map.2 ⟨q, List.mem_filter.2 ⟨hq, by simpa using hn⟩, rfl⟩)
      rw [hL2] at this
      simpa using this
    have coarse := T3.lead_const (S := L2) (l := arQ (leftP n l c m rk)) (fun z hz => by
      obtain ⟨q, hq, rfl⟩ := List.mem_map.1 hz
      obtain ⟨h1, h2⟩ := List.mem_filter.1 hq
      have h3 : q ∉ cutP n l c m rk := by simpa using h2
      have := arc2 q h1 (fun h => h3 (hl1 q h))
      simpa using this)
    have e1 : L2 x = L2 v := by rw [← coarse x, hxl, coarse v]
    have e2 : L2 u = L2 y := by rw [← coarse u, hyl, coarse y]
    have e3 : L2 u = L2 v := by
      rcases huv with ⟨rfl, rfl⟩ | ⟨rfl, rfl⟩
      · exact arc2 p hpp hl2
      · exact (arc2 p hpp hl2).symm
    have e4 : L2 x = L2 y := by rw [e1, ← e3, e2]
    unfold ptB
    rw [List.any_eq_true]
    refine ⟨y, hy, ?_⟩
    rw [List.any_eq_true]
    refine ⟨x, List.mem_range.2 hx, ?_⟩
    rw [frL_good hC hsub hl3 x hx, frL_good hC hsub hl3 y hyn, hL2]
    have e5 : T3.lab L2 x = T3.lab L2 y := by unfold T3.lab; rw [e4]
    simp [hxr, e5]
  cases h1 : F6.side rk (dN n l c m p.a) <;> cases h2 : F6.side rk (dN n l c m p.b) <;> rw [h1, h2] at hside
  · cases hside
  · exact key p.b p.a (.inr ⟨rfl, rfl⟩) h2 h1
  · exact key p.a p.b (.inl ⟨rfl, rfl⟩) h1 h2
  · cases hside
end
end Go.Proofs.Ytpgadcacimjlaaa
namespace Go.Proofs.Ytpgadcacimjlaaa
open Go.RowKit
theorem reg_all {n : Nat} {l : List A} {c m : Nat} (hc : c < n) (h : (reg n l c m).length = n) : ∀ u, u < n → u ∈ reg n l c m := fun u hu => Decidable.byContradiction fun hn => by
  have := nodup_short (N := n) (q := u :: reg n l c m) (List.nodup_cons.2 ⟨hn, reg_nodup hc⟩) (fun x hx => by
    rcases List.mem_cons.1 hx with rfl | hx
    · exact hu
    · exact reg_lt hc x hx)
  rw [List.length_cons, h] at this
  omega
/-- What parted answers of a cut, and of it less one pair. -/
theorem cut_pt {n : Nat} {l : List A} {c m : Nat} {xs : List Pr} (hC : chkE n l = 0) (hc : c < n) (hm : 1 ≤ m) (h : CutIs n l c m xs) : ptB n (fun u => decide (u ∈ reg n l c m)) (frL n l (xs.map toI)) (core n l c m) = false ∧ ∀ i, i < xs.length → ptB n (fun u => decide (u ∈ reg n l c m)) (frL n l ((xs.take i ++ xs.drop (i + 1)).map toI)) (core n l c m) = true := by
  have hxl := h.len
  have hsub := h.sub
  unfold CutIs at h
  by_cases hr : (reg n l c m).length = n
  · rw [if_pos hr] at h
    subst h
    refine ⟨?_, fun i hi => absurd hi (by simp)⟩
    rw [Bool.eq_false_iff]
    intro h
    unfold ptB at h
    obtain ⟨v, _, h⟩ := List.any_eq_true.1 h
    obtain ⟨u, hu, h⟩ := List.any_eq_true.1 h
    have := reg_all hc hr u (List.mem_range.1 hu)
    simp [this] at h
  · rw [if_neg hr] at h
    obtain ⟨fl, rk, hf, rfl⟩ := h
    refine ⟨pt_false hC hc hf, fun i hi => ?_⟩
    have hnd : (cutP n l c m rk).Nodup := (prl_nodup l).filter _
    have hp : (cutP n l c m rk).getD i Pr.zero ∈ cutP n l c m rk := getD_memP hi
    have hsp : (cutP n l c m rk).take i ++ (cutP n l c m rk).getD i Pr.zero :: (cutP n l c m rk).drop (i + 1) = cutP n l c m rk := by
      conv => rhs; rw [← List.take_append_drop i (cutP n l c m rk)]
      rw [List.drop_eq_getElem_cons hi]
      simp [List.getD, List.getElem?_eq_getElem hi]
    refine pt_true hC hc hm hf hp (fun q hq => ?_) (fun hq => ?_) ?_
    · rcases List.mem_append.1 hq with hq | hq
      · exact List.mem_of_mem_take hq
      · exact List.mem_of_mem_drop hq
    · have h2 := hnd
      rw [← hsp] at h2
      obtain ⟨_, h3, h4⟩ := List.nodup_append.1 h2
      rcases List.mem_append.1 hq with hq | hq
      · exact h4 _ hq _ List.mem_cons_self rfl
      · exact (List.nodup_cons.1 h3).1 hq
    · have := prl_len l
      have := (chk_zero hC).2.2.1
      rw [List.length_append, List.length_take, List.length_drop]
      omega
end Go.Proofs.Ytpgadcacimjlaaa
namespace Go.Proofs.Ytpgadcacimjlaaa
open Go.RowKit
theorem i64_lin1 {k : Nat} (h : k ≤ 9223372036854775806) : IntKind.i64.wrap ((k : Int) + 1) = (k : Int) + 1 := IntWalk.i64_in _ ⟨by omega, by omega⟩
set_option maxRecDepth 100000 in
set_option maxHeartbeats 6400000 in
theorem nparts_any (N c m : Int) (a : Option Addr) (l : List A) (cap : Nat) (w : World) (hl : l.length ≤ 9223372036854775807) (hr : Arcs w a l) :
    Calls Try.prog 3 #[.agg #[.int .i64 N, .slice a l.length cap], .int .i64 c, .int .i64 m] w fun e w' => e = .returned (.bool true) ∧ Below w.heap.size w w' := by
  have hb0 : Below w.heap.size w (w.alloc (.cells #[.int .i64 N, .slice a l.length cap] 24)) := (Below.refl _ _).alloc (Nat.le_refl _) _
  have hg := heap_top w (.cells #[.int .i64 N, .slice a l.length cap] 24)
  have HR := Lib.hid (hr.on hb0)
  have hwz : w.heap.size ≤ (w.alloc (.cells #[.int .i64 N, .slice a l.length cap] 24)).heap.size := hb0.size
  have HB0 := Lib.hid hb0
  clear hb0 hr
  generalize hp : w.heap.size = p at *
  go_enter Try.func3, Try.ntmps3
  go_wp2_with fail
  generalize hW : w.alloc (.cells #[.int .i64 N, .slice a l.length cap] 24) = W at *
  clear hW
  have hpz : p < W.heap.size := lt_of_block hg
  refine (works_any W).mono ?_
  rintro e w1 ⟨rfl, hb1⟩
  have HB1 : Hid (Below p w w1) := HB0.out.trans (hb1.mono hwz)
  have hg1 := (hb1.block p hpz).trans hg
  obtain ⟨⟨c0, c1'⟩, _⟩ := two_cells hg1
  have HR1 := Lib.hid (HR.out.on hb1)
  have hz1 : p < w1.heap.size := lt_of_block hg1
  clear hb1 HR hg hwz
  go_wp2_with fail
  refine (large_any N a l.length cap w1 hl).mono ?_
  rintro e w2 ⟨rfl, hb2⟩
  have HB2 : Hid (Below p w w2) := HB1.out.trans (hb2.mono (by omega))
  have hg2 := (hb2.block p hz1).trans hg1
  obtain ⟨⟨d0, d1'⟩, _⟩ := two_cells hg2
  have HR2 := Lib.hid (HR1.out.on hb2)
  have hz2 : p < w2.heap.size := lt_of_block hg2
  clear hb2 HR1 hg1 c0 c1'
  generalize hbig : decide (100 < N ∨ 400 < l.length) = big at *
  by_cases hB : big = true
  · subst hB
    go_wp2_with fail
    go_ret
    exact ⟨rfl, HB2.out⟩
  obtain rfl : big = false := by simpa using hB
  clear hB hbig
  go_wp2_with fail
  refine (ncut_any N c m a l cap w2 hl HR2.out).mono ?_
  rintro e w3 ⟨v3, c3, xs, rfl, hown3, hmi, hme, hb3⟩
  have HB3 : Hid (Below p w w3) := HB2.out.trans (hb3.mono (by omega))
  have hg3 := (hb3.block p hz2).trans hg2
  obtain ⟨⟨f0, f1'⟩, _⟩ := two_cells hg3
  have HR3 := Lib.hid (HR2.out.on hb3)
  have HO3 := Lib.hid hown3
  have hz3 : p < w3.heap.size := lt_of_block hg3
  obtain ⟨G, HG⟩ := named (gchk N c m l)
  rw [HG.out] at hmi hme ⊢
  clear hb3 hown3 HR2 hg2 d0 d1'
  by_cases hG : G ≠ 0
  · have e1 : (G != 0) = true := by simpa using hG
    have e2 : (G == 0) = false := by simpa using hG
    obtain rfl : xs = [] := hme.out hG
    go_wp2_with fail
    go_ret
    exact ⟨rfl, HB3.out⟩
  obtain rfl : G = 0 := by omega
  clear hG
  obtain ⟨hC, ⟨hc0, hcN⟩, hm1, hm2⟩ := gchk_zero HG.out
  have HC0 := Lib.hid hC
  obtain ⟨n, hn⟩ : ∃ n : Nat, N = n := ⟨N.toNat, by have := (chk_zero hC).1; omega⟩
  subst hn
  have hcn : c.toNat < n := by omega
  have hmm1 : 1 ≤ m.toNat := by omega
  have hn' : n ≤ 1024 := by have := (chk_zero hC).2.1; omega
  have hci := hmi.out rfl
  rw [Int.toNat_natCast] at hci
  have HPT := Lib.hid (cut_pt hC hcn hmm1 hci)
  have HSUB := Lib.hid hci.sub
  have hxl : xs.length ≤ 8192 := Nat.le_trans hci.len (Nat.le_trans (prl_len l) (chk_zero hC).2.2.1)
  have HCAP := Lib.hid (own_cap HO3.out)
  clear hmi hme hci hC
  go_wp2_with fail
  refine (region_any n c m a l cap w3 hl HR3.out).mono ?_
  rintro e w4 ⟨v4, q, rfl, hown4, hq, hb4⟩
  obtain ⟨a4, c4, rfl⟩ := own_slice hown4
  rw [HG.out] at hq ⊢
  rw [if_pos rfl, Int.toNat_natCast] at hq
  have HB4 : Hid (Below p w w4) := HB3.out.trans (hb4.mono (by omega))
  have hg4 := (hb4.block p hz3).trans hg3
  obtain ⟨⟨k0, k1'⟩, _⟩ := two_cells hg4
  have HR4 := Lib.hid (HR3.out.on hb4)
  have HO4 : Hid (OwnP w4 w2.heap.size v3 c3 xs) := own_on HO3.out hb4
  have HI4 := Lib.hid (own_ints hown4 rfl)
  have hz4 : p < w4.heap.size := lt_of_block hg4
  have HQ := Lib.hid hq
  have hql : q.length ≤ 1024 := by rw [hq]; exact Nat.le_trans (reg_short hcn) hn'
  have HQN : Hid (∀ u, u ∈ q → u < n) := fun u hu => reg_lt hcn u (HQ.out ▸ hu)
  clear hb4 hown4 HR3 hg3 f0 f1' HO3 hq
  go_wp2_with fail
  refine (core_any n c m a l cap w4 hl HR4.out).mono ?_
  rintro e w5 ⟨v5, cq, rfl, hown5, hcq, hb5⟩
  obtain ⟨a5, c5, rfl⟩ := own_slice hown5
  rw [HG.out] at hcq ⊢
  rw [if_pos rfl, Int.toNat_natCast] at hcq
  have HB5 : Hid (Below p w w5) := HB4.out.trans (hb5.mono (by omega))
  have hg5 := (hb5.block p hz4).trans hg4
  obtain ⟨⟨r0, r1'⟩, _⟩ := two_cells hg5
  have HR5 := Lib.hid (HR4.out.on hb5)
  have HO5 : Hid (OwnP w5 w2.heap.size v3 c3 xs) := own_on HO4.out hb5
  have HI5 := Lib.hid (HI4.out.on hb5)
  have HJ5 := Lib.hid (own_ints hown5 rfl)
  have hz5 : p < w5.heap.size := lt_of_block hg5
  have HCQ := Lib.hid hcq
  have hcl : cq.length ≤ 1024 := by rw [hcq]; exact Nat.le_trans (core_le _ _ _ _) (Nat.le_trans (reg_short hcn) hn')
  have HCN : Hid (∀ u, u ∈ cq → u < n) := fun u hu => reg_lt hcn u (List.mem_of_mem_take (HCQ.out ▸ hu))
  clear hb5 hown5 HR4 hg4 k0 k1' HO4 hcq HI4
  obtain ⟨i4, hi4, hz4', hs4, hb4'⟩ := info_parts info4
  have hmk : ∀ w, (Instr.makeSlice 34 (.int .i64 n) (.int .i64 n)).run Try.prog w = .ok (.slice (some ⟨w.heap.size, 0, none⟩) n n) (w.alloc (.cells ((List.range n).map (fun _ => Value.bool false)).toArray 4)) := fun w => by
    have := run_make (P := Try.prog) w 34 4 i4 (.bool false) Try.underlying34 hi4 hz4' .i64 .i64 n n (by omega) (by omega) (by rw [hb4']; omega) (by omega)
    rw [this, Int.toNat_natCast, hs4, made_bool]
  clear hi4 hz4' hs4 hb4'
  clear i4
  obtain ⟨db, hdb⟩ : ∃ db, w5.heap.size = db := ⟨_, rfl⟩
  have HT6 : Hid (TbV (w5.alloc (.cells ((List.range n).map (fun _ => Value.bool false)).toArray 4)) db n 4 (fun v => .bool (decide (v ∈ q.take 0)))) := hdb ▸ heap_top w5 _
  have HB6 : Hid (Below db w5 (w5.alloc (.cells ((List.range n).map (fun _ => Value.bool false)).toArray 4))) := (Below.refl _ _).alloc (by omega) _
  obtain ⟨ix, ox, hix⟩ := HI5.out.get
  have HIX := Lib.hid hix
  clear hix
  go_wp2_with fail
  generalize hU : w5.alloc (.cells ((List.range n).map (fun _ => Value.bool false)).toArray 4) = U at *
  clear hU hmk
  go_loopw [59] (fun i wr => ∃ (k : Nat), k ≤ q.length ∧ i = .int .i64 k ∧ Hid (TbV wr db n 4 (fun v => .bool (decide (v ∈ q.take k)))) ∧ Hid (Below db w5 wr)) (fun i _ => q.length - (intOf i).toNat)
  case atStart => exact ⟨0, Nat.zero_le _, rfl, HT6, HB6⟩
  case round =>
    obtain ⟨k, hk, rfl, HTR, HBR⟩ := hrel
    by_cases hlk : k < q.length
    · obtain ⟨rfl, hbl, hat⟩ := HIX.out (by rw [ints_len]; omega)
      have hlk' : (k : Int) < q.length := by omega
      have y0 := (HBR.out.cell (p := ⟨ix, ox + k, none⟩) (hdb ▸ hbl)).trans (hat k (by rw [ints_len]; exact hlk))
      rw [ints_getD hlk] at y0
      have hvn : q.getD k 0 < n := HQN.out _ (by simp [List.getD, List.getElem?_eq_getElem hlk])
      have HTS := Lib.hid (take_snoc hlk)
      clear hat
      generalize q.getD k 0 = v at *
      have hvn' : (v : Int) < n := by omega
      have t1 := HTR.out.cell hvn
      have t2 := HTR.out.free v
      generalize decide (v ∈ q.take k) = old at t1
      go_wp2_with fail
      refine ⟨⟨k + 1, by omega, by simp, Lib.hid ((HTR.out.set v (.bool true)).congr (fun u _ => ?_)), Lib.hid (HBR.out.setCell (Nat.le_refl _) _)⟩, by simp [intOf]; omega⟩
      rw [HTS.out]
      by_cases e : u = v
      · subst e; rw [updV_self]; simp
      · rw [updV_ne _ _ e]; simp [e]
    · have e0 : q.take k = q := List.take_of_length_le (by omega)
      have hlk' : ¬ (k : Int) < q.length := by omega
      rw [e0] at HTR
      clear e0
      have hg6 := (HBR.out.block p (by omega)).trans hg5
      obtain ⟨⟨s0, s1'⟩, _⟩ := two_cells hg6
      have HR6 := Lib.hid (HR5.out.on (hdb ▸ HBR.out))
      have HO6 : Hid (OwnP wr w2.heap.size v3 c3 xs) := own_on HO5.out (hdb ▸ HBR.out)
      have HJ6 := Lib.hid (HJ5.out.on (hdb ▸ HBR.out))
      have HPC := Lib.hid (parted_any n a l cap v3 (xs.map toI) c3 a5 cq c5 db (fun v => decide (v ∈ q)) wr HC0.out (by rw [List.length_map]; omega) (frE_good HC0.out HSUB.out (by omega)) hcl HCN.out HR6.out (prs_I HO6.out.prs) HJ6.out HTR.out)
      rw [HQ.out, HCQ.out, if_neg (by rw [HPT.out.1]; decide), List.length_map] at HPC
      rw [← HCQ.out] at HPC
      go_wp2_with fail
      refine HPC.out.mono ?_
      rintro e w7 ⟨rfl, hb7⟩
      have hdw : db < wr.heap.size := HTR.out.lt
      have HB7 : Hid (Below p w w7) := (HB5.out.trans (HBR.out.mono (by omega))).trans (hb7.mono (by omega))
      have hg7 := (hb7.block p (by omega)).trans hg6
      have HR7 := Lib.hid (HR6.out.on hb7)
      have HO7 : Hid (OwnP w7 w2.heap.size v3 c3 xs) := own_on HO6.out hb7
      have HJ7 := Lib.hid (HJ6.out.on hb7)
      have HT7 := Lib.hid (HTR.out.same (hb7.block db hdw))
      have hz7 : p < w7.heap.size := lt_of_block hg7
      have HG7 := Lib.hid hg7
      obtain ⟨iy, oy, hiy⟩ := HO7.out.prs.get
      have HIY := Lib.hid hiy
      obtain ⟨hcap, hcm⟩ := HCAP.out
      obtain ⟨i0, hi, hy0, hy1, hy2⟩ := info_parts info41
      clear hb7 hg6 s0 s1' HR6 HO6 HJ6 HPC hg7 hiy HR5 HO5 HJ5 HI5 HT6 HB6 hg5 r0 r1' HTR HBR hdw
      obtain ⟨Q, hQ⟩ : ∃ Q, w7.heap.size = Q := ⟨_, rfl⟩
      go_wp2_with fail
      go_loopw [75] (fun i wr => ∃ (k : Nat), k ≤ xs.length ∧ i = .int .i64 k ∧ Hid (Below Q w7 wr)) (fun i _ => xs.length - (intOf i).toNat)
      case atStart => exact ⟨0, Nat.zero_le _, rfl, Below.refl _ _⟩
      case round =>
        obtain ⟨k, hk, rfl, HBU⟩ := hrel
        have hqu : Q ≤ wr.heap.size := hQ ▸ HBU.out.size
        by_cases hlk : k < xs.length
        · obtain ⟨rfl, hbl, hat⟩ := HIY.out (by omega)
          have hlk' : (k : Int) < xs.length := by omega
          have hk1 : (k : Int) ≤ c3 := by omega
          have hk2 : (k : Int) + 1 ≤ xs.length := by omega
          have hk3 : (xs.length : Int) ≤ c3 := by omega
          have hk4 : (c3 : Int) ≤ 9223372036854775807 := by omega
          have hk5 : (0 : Int) ≤ (k : Int) + 1 := by omega
          have hk6 : ((k : Int) + 1).toNat = k + 1 := by omega
          have HPA : Hid (∀ j, j < xs.length → (xs.getD j Pr.zero).at (wr.alloc (.cells #[] 41)) iy (oy + j * 2)) := fun j hj => by
            have hbw := HBU.out.alloc hqu (.cells #[] 41)
            obtain ⟨z0, z1⟩ := hat j hj
            exact ⟨(hbw.cell (p := ⟨iy, oy + j * 2, none⟩) (hQ ▸ hbl)).trans z0, (hbw.cell (p := ⟨iy, oy + j * 2 + 1, none⟩) (hQ ▸ hbl)).trans z1⟩
          have HW0 : Hid ((wr.alloc (.cells #[] 41)).drew.ownsRow Q 41 2 (.slice (some ⟨wr.heap.size, 0, none⟩) 0 0) 0 []) := ⟨rfl, .inr ⟨wr.heap.size, 0, #[], rfl, hqu, heap_top wr _, Nat.le_refl _, by unfold maxLen; omega, rfl, rfl⟩⟩
          have HNA := Lib.hid (drop_cells (k := 0) HPA.out)
          have HND := Lib.hid (drop_cells (k := k + 1) HPA.out)
          have HNK : Hid (∀ j u, (cellsP (xs.take k))[j]? = some u → (wr.alloc (.cells #[] 41)).drew.cell? ((⟨iy, oy, none⟩ : Addr).add j) = some u) := fun j u hu => by
            have h1 : (cellsP xs)[j]? = some u := by
              conv => lhs; rw [← List.take_append_drop k xs, cellsP_append]
              rw [List.getElem?_append_left (List.getElem?_eq_some_iff.1 hu).1]
              exact hu
            have := HNA.out j u (by rw [List.drop_zero]; exact h1)
            rw [Nat.zero_mul, Nat.add_zero] at this
            exact this
          have HLK : Hid ((cellsP (xs.take k)).length = k * 2) := by show _ = _; rw [cellsP_len, List.length_take]; omega
          have HLD : Hid ((cellsP (xs.drop (k + 1))).length = (xs.length - (k + 1)) * 2) := by show _ = _; rw [cellsP_len, List.length_drop]
          have HSK : Hid (Q ≤ (wr.alloc (.cells #[] 41)).drew.heap.size) := by show Q ≤ (wr.alloc (.cells #[] 41)).heap.size; simp; omega
          have HBA : Hid (Below Q w7 (wr.alloc (.cells #[] 41)).drew) := below_drew (HBU.out.alloc hqu _)
          have hiq : iy < Q := hQ ▸ hbl
          clear hat
          have hwr : IntKind.i64.wrap ((k : Int) + 1) = (k : Int) + 1 := i64_lin1 (by omega)
          by_cases hck : c3 = k + 1
          · have HDN : Hid (xs.drop (k + 1) = []) := List.drop_eq_nil_of_le (by omega)
            have hck' : (c3 = k + 1) = True := by rw [hck]; simp
            clear hck
            go_wp2_with fail
            go_region_law (first | (refine step_append_own rfl (.tmp 78) (.tmp 81) 27 rfl Q 41 i0 _ 2 16 Try.underlying27 hi hy0 hy1 hy2 rfl (by decide) (.slice (some ⟨wr.heap.size, 0, none⟩) 0 0) 0 [] (by simp [Act.eval]) HW0.out ⟨iy, oy, none⟩ k c3 (cellsP (xs.take k)) (by simp [Act.eval]) HLK.out HNK.out (cellsP_one _) (by unfold maxLen; omega) (by omega) HSK.out ?_; intro v8 w8 hown8 hgrow8; rw [Nat.zero_add, List.nil_append] at hown8; have HO8 := Lib.hid hown8; have HN8 : Hid (∀ j u, (cellsP (xs.drop (k + 1)))[j]? = some u → w8.cell? ((⟨iy, oy, none⟩ : Addr).add j) = some u) := fun j u hu => (by rw [HDN.out] at hu; simp [cellsP] at hu); have HB8 : Hid (Below Q w7 w8) := HBA.out.grown hgrow8 HSK.out (fun j hj => by cases hj; exact hqu); have HZ8 : Hid (Q ≤ w8.heap.size) := Nat.le_trans HSK.out hgrow8.size; clear hown8 hgrow8) | (refine step_append_own rfl (.tmp 82) (.tmp 86) 27 rfl Q 41 i0 _ 2 16 Try.underlying27 hi hy0 hy1 hy2 rfl (by decide) v8 k (cellsP (xs.take k)) (by simp [Act.eval]) HO8.out ⟨iy, oy, none⟩ (xs.length - (k + 1)) (c3 - (k + 1)) (cellsP (xs.drop (k + 1))) (by simp [Act.eval]) HLD.out HN8.out (cellsP_one _) (by unfold maxLen; omega) (by omega) HZ8.out ?_; intro v9 w9 hown9 hgrow9; rw [← cellsP_append] at hown9; obtain ⟨a9, c9, rfl⟩ := own_slice hown9; have HO9 := Lib.hid hown9; have HB9 : Hid (Below Q w7 w9) := HB8.out.grown hgrow9 HZ8.out (fun j hj => (HO8.out.lt j hj).1); have g9 := (HB9.out.block p (by omega)).trans HG7.out; obtain ⟨⟨t0, t1'⟩, _⟩ := two_cells g9; clear hown9 hgrow9))
            all_goals
              have hlen : (xs.take k ++ xs.drop (k + 1)).length = k + (xs.length - (k + 1)) := by rw [List.length_append, List.length_take, List.length_drop]; omega
              have HP9 : Hid (Prs w9 a9 (xs.take k ++ xs.drop (k + 1))) := OwnP.prs (B := Q) (c := c9) (by show World.ownsRow _ _ _ _ _ _ _; rw [hlen]; exact HO9.out)
              have HSL : Hid (∀ r, r ∈ xs.take k ++ xs.drop (k + 1) → r ∈ prl l) := fun r hr => HSUB.out r (by
                rcases List.mem_append.1 hr with h | h
                · exact List.mem_of_mem_take h
                · exact List.mem_of_mem_drop h)
              have HPC := Lib.hid (parted_any n a l cap a9 ((xs.take k ++ xs.drop (k + 1)).map toI) c9 a5 cq c5 db (fun v => decide (v ∈ q)) w9 HC0.out (by rw [List.length_map, hlen]; omega) (frE_good HC0.out HSL.out (by rw [hlen]; omega)) hcl HCN.out (HR7.out.on (hQ ▸ HB9.out)) (prs_I HP9.out) (HJ7.out.on (hQ ▸ HB9.out)) (HT7.out.same (HB9.out.block db (hQ ▸ HT7.out.lt))))
              rw [HQ.out, HCQ.out, if_pos (HPT.out.2 k hlk), List.length_map, hlen] at HPC
              rw [← HCQ.out] at HPC
              have HZ9 : Hid (Q ≤ w9.heap.size) := hQ ▸ HB9.out.size
              clear hlen
              go_wp2_with fail
              refine HPC.out.mono ?_
              rintro e w10 ⟨rfl, hb10⟩
              have HB10 : Hid (Below Q w7 w10) := HB9.out.trans (hb10.mono HZ9.out)
              clear hb10
              go_wp2_with fail
              exact ⟨⟨k + 1, by omega, by simp, HB10⟩, by simp [intOf]; omega⟩
          · have hck' : ¬ (c3 = k + 1) := hck
            go_wp2_with fail
            go_region_law (first | (refine step_append_own rfl (.tmp 78) (.tmp 81) 27 rfl Q 41 i0 _ 2 16 Try.underlying27 hi hy0 hy1 hy2 rfl (by decide) (.slice (some ⟨wr.heap.size, 0, none⟩) 0 0) 0 [] (by simp [Act.eval]) HW0.out ⟨iy, oy, none⟩ k c3 (cellsP (xs.take k)) (by simp [Act.eval]) HLK.out HNK.out (cellsP_one _) (by unfold maxLen; omega) (by omega) HSK.out ?_; intro v8 w8 hown8 hgrow8; rw [Nat.zero_add, List.nil_append] at hown8; have HO8 := Lib.hid hown8; have HN8 : Hid (∀ j u, (cellsP (xs.drop (k + 1)))[j]? = some u → w8.cell? ((⟨iy, oy + (k + 1) * 2, none⟩ : Addr).add j) = some u) := fun j u hu => (hgrow8.cell (HND.out j u hu) (by rw [Go.WideShapes.add_plain]; intro e; injection e with e; have e : iy = wr.heap.size := e; omega)); have HB8 : Hid (Below Q w7 w8) := HBA.out.grown hgrow8 HSK.out (fun j hj => by cases hj; exact hqu); have HZ8 : Hid (Q ≤ w8.heap.size) := Nat.le_trans HSK.out hgrow8.size; clear hown8 hgrow8) | (refine step_append_own rfl (.tmp 82) (.tmp 86) 27 rfl Q 41 i0 _ 2 16 Try.underlying27 hi hy0 hy1 hy2 rfl (by decide) v8 k (cellsP (xs.take k)) (by simp [Act.eval]) HO8.out ⟨iy, oy + (k + 1) * 2, none⟩ (xs.length - (k + 1)) (c3 - (k + 1)) (cellsP (xs.drop (k + 1))) (by simp [Act.eval]) HLD.out HN8.out (cellsP_one _) (by unfold maxLen; omega) (by omega) HZ8.out ?_; intro v9 w9 hown9 hgrow9; rw [← cellsP_append] at hown9; obtain ⟨a9, c9, rfl⟩ := own_slice hown9; have HO9 := Lib.hid hown9; have HB9 : Hid (Below Q w7 w9) := HB8.out.grown hgrow9 HZ8.out (fun j hj => (HO8.out.lt j hj).1); have g9 := (HB9.out.block p (by omega)).trans HG7.out; obtain ⟨⟨t0, t1'⟩, _⟩ := two_cells g9; clear hown9 hgrow9))
            all_goals
              have hlen : (xs.take k ++ xs.drop (k + 1)).length = k + (xs.length - (k + 1)) := by rw [List.length_append, List.length_take, List.length_drop]; omega
              have HP9 : Hid (Prs w9 a9 (xs.take k ++ xs.drop (k + 1))) := OwnP.prs (B := Q) (c := c9) (by show World.ownsRow _ _ _ _ _ _ _; rw [hlen]; exact HO9.out)
              have HSL : Hid (∀ r, r ∈ xs.take k ++ xs.drop (k + 1) → r ∈ prl l) := fun r hr => HSUB.out r (by
                rcases List.mem_append.1 hr with h | h
                · exact List.mem_of_mem_take h
                · exact List.mem_of_mem_drop h)
              have HPC := Lib.hid (parted_any n a l cap a9 ((xs.take k ++ xs.drop (k + 1)).map toI) c9 a5 cq c5 db (fun v => decide (v ∈ q)) w9 HC0.out (by rw [List.length_map, hlen]; omega) (frE_good HC0.out HSL.out (by rw [hlen]; omega)) hcl HCN.out (HR7.out.on (hQ ▸ HB9.out)) (prs_I HP9.out) (HJ7.out.on (hQ ▸ HB9.out)) (HT7.out.same (HB9.out.block db (hQ ▸ HT7.out.lt))))
              rw [HQ.out, HCQ.out, if_pos (HPT.out.2 k hlk), List.length_map, hlen] at HPC
              rw [← HCQ.out] at HPC
              have HZ9 : Hid (Q ≤ w9.heap.size) := hQ ▸ HB9.out.size
              clear hlen
              go_wp2_with fail
              refine HPC.out.mono ?_
              rintro e w10 ⟨rfl, hb10⟩
              have HB10 : Hid (Below Q w7 w10) := HB9.out.trans (hb10.mono HZ9.out)
              clear hb10
              go_wp2_with fail
              exact ⟨⟨k + 1, by omega, by simp, HB10⟩, by simp [intOf]; omega⟩
        · have hlk' : ¬ (k : Int) < xs.length := by omega
          go_wp2_with fail
          go_ret
          exact ⟨rfl, HB7.out.trans (HBU.out.mono (by omega))⟩
end Go.Proofs.Ytpgadcacimjlaaa
