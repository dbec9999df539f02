/-
  Neighbours of a vertex, as graph.Neighbours answers them, in the words of this seat.
-/
import Derived.Test.YtgkpmcpkobphpaaTNeighC
import Derived.Test.YtgkpmcpkobphpaaRNear
import Derived.Test.YtgkpmcpkobphpaaRing
import Derived.Test.YtgkpmcpkobphpaaRegion
namespace Go.Proofs.Ytgkpmcpkobphpaa
open Go.RowKit
/-- An arc in the words of the graph's texts. -/
def toT (x : A) : T3.A := ⟨x.f, x.t, x.w⟩
theorem toT_at {x : A} {w : World} {b o : Nat} (h : x.at w b o) : (toT x).at w b o := h
theorem mapT_getD (l : List A) (j : Nat) (hj : j < l.length) : (l.map toT).getD j T3.A.zero = toT (l.getD j A.zero) := by simp [List.getD, hj]
theorem arcs_T {w : World} {a : Option Addr} {l : List A} (h : Arcs w a l) : T3.Arcs w a (l.map toT) := by
  rcases h with rfl | ⟨b, o, rfl, hl, hc⟩
  · exact .inl rfl
  · refine .inr ⟨b, o, rfl, hl, fun j hj => ?_⟩
    have hj' : j < l.length := by simpa using hj
    rw [mapT_getD l j hj']
    exact toT_at (hc j hj')
theorem okA_T (N : Int) : (T3.okA N ∘ toT) = okA N := by funext x; rfl
theorem chkE_T (N : Int) (l : List A) : T3.chkE N (l.map toT) = chkE N l := by
  unfold T3.chkE chkE
  rw [List.length_map, List.all_map, okA_T]
theorem set_getD {X : List Bool} {i u : Nat} (hu : u < X.length) : (X.set i true).getD u false = (X.getD u false || decide (u = i)) := by
  by_cases e : u = i
  · subst e; simp [List.getD, hu]
  · have : i ≠ u := fun h => e h.symm
    simp [List.getD, this, e]
theorem nr_cons (x : A) (r : List A) (v u : Nat) : nr (x :: r) v u = (((x.f == (v : Int) && x.t == (u : Int)) || (x.t == (v : Int) && x.f == (u : Int))) || nr r v u) := by simp [nr]
theorem nb_fold {n v : Nat} : ∀ (l : List A) (X : List Bool), X.length = n → (∀ x ∈ l, (0 ≤ x.f ∧ x.f < n) ∧ (0 ≤ x.t ∧ x.t < n)) → ∀ u, u < n → ((l.map toT).foldl (T3.nbS v) X).getD u false = (X.getD u false || nr l v u)
  | [], X, _, _, u, _ => by simp [nr]
  | x :: r, X, hX, hall, u, hu => by
    rw [List.map_cons, List.foldl_cons, nb_fold r _ (by rw [T3.nbS_len]; exact hX) (fun y hy => hall y (List.mem_cons_of_mem _ hy)) u hu, nr_cons, ← Bool.or_assoc]
    congr 1
    obtain ⟨⟨f0, f1⟩, t0, t1⟩ := hall x List.mem_cons_self
    obtain ⟨f, hf⟩ : ∃ f : Nat, x.f = f := ⟨x.f.toNat, by omega⟩
    obtain ⟨t, ht⟩ : ∃ t : Nat, x.t = t := ⟨x.t.toNat, by omega⟩
    unfold T3.nbS toT
    simp only [hf, ht, Int.toNat_natCast]
    have e1 : ((f : Int) == (v : Int)) = decide (f = v) := by rw [Bool.eq_iff_iff]; simp; omega
    have e2 : ((t : Int) == (v : Int)) = decide (t = v) := by rw [Bool.eq_iff_iff]; simp; omega
    have e3 : ((f : Int) == (u : Int)) = decide (u = f) := by rw [Bool.eq_iff_iff]; simp; omega
    have e4 : ((t : Int) == (u : Int)) = decide (u = t) := by rw [Bool.eq_iff_iff]; simp; omega
    rw [e1, e2, e3, e4]
    by_cases h1 : t = v
    · by_cases h2 : f = v
      · subst h1; subst h2
        rw [if_pos rfl, if_pos rfl, set_getD (by simp; omega), set_getD (by omega)]
        simp
      · subst h1
        have h2' : ¬ ((f : Int) = (t : Int)) := by omega
        rw [if_pos rfl, if_neg h2', set_getD (by omega)]
        simp [h2]
    · have h1' : ¬ ((t : Int) = (v : Int)) := by omega
      rw [if_neg h1']
      by_cases h2 : f = v
      · subst h2
        rw [if_pos rfl, set_getD (by omega)]
        simp [h1]
      · have h2' : ¬ ((f : Int) = (v : Int)) := by omega
        rw [if_neg h2']
        simp [h1, h2]
theorem mem_hits {q : Nat → Bool} : ∀ {n : Nat} {x : Int}, x ∈ T3.hits q n ↔ ∃ u : Nat, u < n ∧ x = u ∧ q u = true
  | 0, x => by simp [T3.hits]
  | n + 1, x => by
    unfold T3.hits
    by_cases h : q n = true
    · rw [if_pos h, List.mem_append, mem_hits, List.mem_singleton]
      constructor
      · rintro (⟨u, h1, h2, h3⟩ | rfl)
        · exact ⟨u, by omega, h2, h3⟩
        · exact ⟨n, by omega, rfl, h⟩
      · rintro ⟨u, h1, h2, h3⟩
        by_cases e : u = n
        · subst e; exact .inr h2
        · exact .inl ⟨u, by omega, h2, h3⟩
    · rw [if_neg h, mem_hits]
      constructor
      · rintro ⟨u, h1, h2, h3⟩
        exact ⟨u, by omega, h2, h3⟩
      · rintro ⟨u, h1, h2, h3⟩
        by_cases e : u = n
        · subst e; exact absurd h3 h
        · exact ⟨u, by omega, h2, h3⟩
theorem mem_nbs {n v : Nat} {l : List A} (hall : ∀ x ∈ l, (0 ≤ x.f ∧ x.f < n) ∧ (0 ≤ x.t ∧ x.t < n)) {x : Int} : x ∈ T3.nbs n (l.map toT) v ↔ ∃ u : Nat, u < n ∧ x = u ∧ nr l v u = true ∧ u ≠ v := by
  unfold T3.nbs
  rw [mem_hits]
  have key : ∀ u, u < n → T3.mk (T3.nbM v n (l.map toT)) u = (nr l v u && !decide (u = v)) := fun u hu => by
    unfold T3.mk T3.nbM T3.nbL
    have hl := nb_fold l (List.replicate n false) (by simp) hall u hu (v := v)
    have hlen : ((l.map toT).foldl (T3.nbS v) (List.replicate n false)).length = n := T3.nbL_len v n (l.map toT)
    by_cases e : u = v
    · subst e
      simp [List.getD, hlen, hu]
    · have e' : v ≠ u := fun h => e h.symm
      have : ((((l.map toT).foldl (T3.nbS v) (List.replicate n false)).set v false).getD u false) = ((l.map toT).foldl (T3.nbS v) (List.replicate n false)).getD u false := by
        simp [List.getD, e']
      rw [this, hl]
      simp [List.getD, hu, e]
  constructor
  · rintro ⟨u, h1, h2, h3⟩
    rw [key u h1] at h3
    simp at h3
    exact ⟨u, h1, h2, h3.1, h3.2⟩
  · rintro ⟨u, h1, h2, h3, h4⟩
    exact ⟨u, h1, h2, by rw [key u h1, h3]; simp [h4]⟩
theorem neigh_S (n v : Nat) (a : Option Addr) (l : List A) (cap : Nat) (w : World) (hE : chkE n l = 0) (hv : v < n) (hr : Arcs w a l) :
    Calls Try.prog 27 #[.agg #[.int .i64 n, .slice a l.length cap], .int .i64 v] w fun e w' => ∃ a' c ys, e = .returned (.tuple #[.slice a' ys.length c, .int .i64 0]) ∧ Ints w' a' ys ∧ ys.length ≤ 1024 ∧ (∀ x, x ∈ ys ↔ ∃ u : Nat, u < n ∧ x = u ∧ nr l v u = true ∧ u ≠ v) ∧ Below w.heap.size w w' := by
  obtain ⟨h1, h2, h3, h4⟩ := chk_zero hE
  have hc := T3.neigh_any n v a (l.map toT) cap w (by simp; omega) (arcs_T hr)
  have hO : T3.outE n (l.map toT) v = 0 := by
    unfold T3.outE
    rw [chkE_T, if_pos hE, if_pos (by simp [T3.okV]; omega)]
  have hL : T3.outL n (l.map toT) v (T3.nbs (n : Int).toNat (l.map toT) (v : Int).toNat) = T3.nbs n (l.map toT) v := by
    unfold T3.outL
    rw [if_pos hO]; rfl
  rw [hO, hL, List.length_map] at hc
  refine hc.mono ?_
  rintro e w1 ⟨a', c, rfl, hown, hb⟩
  exact ⟨a', c, _, rfl, ints_own hown, Nat.le_trans (T3.hits_len _ _) (by omega), fun x => mem_nbs h4, hb⟩
/-- A region's members are right members. -/
theorem reg_sub {n c m : Nat} {l : List A} (hc : c < n) : (reg n l c m).Nodup ∧ (∀ u, u ∈ reg n l c m → u < n) ∧ (reg n l c m).length ≤ n := by
  unfold reg whole
  have hi := gro_inv (E := edl l) (M := 2 * l.length) (S := fun _ => false) hc n
  refine ⟨hi.nd.sublist (List.take_sublist _ _), fun u hu => hi.lt u (List.mem_of_mem_take hu), ?_⟩
  rw [List.length_take]
  have := gro_short (E := edl l) (M := 2 * l.length) (S := fun _ => false) hc n
  omega
theorem nodup_ints {q : List Nat} (h : q.Nodup) : (ints q).Nodup := by
  unfold ints
  rw [List.Nodup, List.pairwise_map]
  exact h.imp fun {a b} h => by omega
theorem mem_ints {q : List Nat} {u : Nat} : (u : Int) ∈ ints q ↔ u ∈ q := by
  unfold ints
  rw [List.mem_map]
  constructor
  · rintro ⟨x, hx, e⟩
    obtain rfl : x = u := by omega
    exact hx
  · exact fun h => ⟨u, h, rfl⟩
theorem mkE_ok {n : Nat} {q : List Nat} (hn : n ≤ 1024) (h1 : q.Nodup) (h2 : ∀ u, u ∈ q → u < n) : mkE n (ints q) = 0 := by
  unfold mkE
  rw [if_neg (by rw [ints_len]; have := nodup_short h1 h2; omega), if_pos, if_pos (nodup_ints h1)]
  rw [List.all_eq_true]
  intro x hx
  unfold ints at hx
  obtain ⟨u, hu, rfl⟩ := List.mem_map.1 hx
  have := h2 u hu
  simp [okV]
  exact this
end Go.Proofs.Ytgkpmcpkobphpaa
