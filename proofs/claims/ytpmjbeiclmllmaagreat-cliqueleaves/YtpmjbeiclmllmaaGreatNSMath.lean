/-
  Searching a graph, nearest vertices first: walks, distances, and what holds while it goes on.
-/
import Derived.Test.YtpmjbeiclmllmaaGreatNBase
import Derived.Test.YtpmjbeiclmllmaaGreatNHMath
namespace Go.Proofs.YtpmjbeiclmllmaaGreat.N5
open Hp (upd upd_self upd_ne)
/-- No walk. -/
def Inf : Int := 18446744073709551615
def src (x : A) : Nat := x.f.toNat
def dst (x : A) : Nat := x.t.toNat
/-- A sum that stops at Inf. -/
def sat (a b : Int) : Int := if Inf ≤ a + b then Inf else a + b
theorem sat_le (a b : Int) : sat a b ≤ a + b := by unfold sat; split <;> omega
theorem sat_inf (a b : Int) : sat a b ≤ Inf := by unfold sat; split <;> omega
theorem sat_lt {a b : Int} (h : sat a b < Inf) : sat a b = a + b := by unfold sat at *; split at h <;> split <;> omega
theorem sat_ge {a b x : Int} (h : x ≤ a + b) (hx : x ≤ Inf) : x ≤ sat a b := by unfold sat; split <;> omega
/-- An arc by its id. -/
def ar (l : List A) (j : Nat) : A := l.getD j A.zero
theorem ar_mem {l : List A} {j : Nat} (h : j < l.length) : ar l j ∈ l := by unfold ar; rw [List.getD_eq_getElem?_getD, List.getElem?_eq_getElem h]; simp
theorem mem_ar {l : List A} {x : A} (h : x ∈ l) : ∃ j, j < l.length ∧ ar l j = x := by
  obtain ⟨j, hj, e⟩ := List.getElem_of_mem h
  exact ⟨j, hj, by unfold ar; rw [List.getD_eq_getElem?_getD, List.getElem?_eq_getElem hj]; simpa using e⟩
/-- A graph that is right. -/
structure RG (n : Nat) (l : List A) : Prop where
  n1 : 1 ≤ n
  nb : n ≤ 1024
  lb : l.length ≤ 8192
  ends : ∀ x ∈ l, (0 ≤ x.f ∧ x.f < n) ∧ (0 ≤ x.t ∧ x.t < n)
  wt : ∀ x ∈ l, 0 ≤ x.w ∧ x.w < 4294967296
theorem RG.src_lt {n : Nat} {l : List A} (g : RG n l) {x : A} (h : x ∈ l) : src x < n := by have := g.ends x h; unfold src; omega
theorem RG.dst_lt {n : Nat} {l : List A} (g : RG n l) {x : A} (h : x ∈ l) : dst x < n := by have := g.ends x h; unfold dst; omega
theorem RG.f_eq {n : Nat} {l : List A} (g : RG n l) {x : A} (h : x ∈ l) : x.f = (src x : Nat) := by have := g.ends x h; unfold src; omega
theorem RG.t_eq {n : Nat} {l : List A} (g : RG n l) {x : A} (h : x ∈ l) : x.t = (dst x : Nat) := by have := g.ends x h; unfold dst; omega
/-- A walk from s within some vertices, and its length. -/
inductive Wk (l : List A) (ok : Nat → Bool) (s : Nat) : Nat → Int → Prop
  | nil : ok s = true → Wk l ok s s 0
  | snoc {x : A} {d : Int} : x ∈ l → Wk l ok s (src x) d → ok (dst x) = true → Wk l ok s (dst x) (d + x.w)
/-- Distances. -/
structure IsD (l : List A) (ok : Nat → Bool) (s : Nat) (F : Nat → Int) : Prop where
  lo : ∀ v, 0 ≤ F v
  hi : ∀ v, F v ≤ Inf
  wk : ∀ v, F v < Inf → Wk l ok s v (F v)
  le : ∀ v d, Wk l ok s v d → F v ≤ d
theorem IsD.unique {l : List A} {ok : Nat → Bool} {s : Nat} {F G : Nat → Int} (h : IsD l ok s F) (k : IsD l ok s G) : F = G := by
  funext v
  have a : F v ≤ G v := by
    by_cases e : G v < Inf
    · exact h.le v _ (k.wk v e)
    · have := h.hi v; omega
  have b : G v ≤ F v := by
    by_cases e : F v < Inf
    · exact k.le v _ (h.wk v e)
    · have := k.hi v; omega
  omega
/-- A table with one number changed. -/
def updI (F : Nat → Int) (x : Nat) (d : Int) : Nat → Int := fun y => if y = x then d else F y
theorem updI_self (F : Nat → Int) (x : Nat) (d : Int) : updI F x d x = d := by simp [updI]
theorem updI_ne (F : Nat → Int) {x y : Nat} (d : Int) (h : y ≠ x) : updI F x d y = F y := by simp [updI, h]
/-- What holds while the search goes on: lengths told F, keys T; the arcs that are left of the vertex that is done now: pe; K vertices are done. -/
structure Inv (l : List A) (ok : Nat → Bool) (s : Nat) (F : Nat → Int) (T : Nat → Option Int) (K : Nat) (pe : Nat → Prop) : Prop where
  lo : ∀ v, 0 ≤ F v
  hi : ∀ v, F v ≤ Inf
  wk : ∀ v, F v < Inf → Wk l ok s v (F v)
  key : ∀ v k, T v = some k → k = F v ∧ F v < Inf
  st : ∀ j, j < l.length → ¬ pe j → F (src (ar l j)) < Inf → T (src (ar l j)) = none → ok (dst (ar l j)) = true → F (dst (ar l j)) ≤ F (src (ar l j)) + (ar l j).w
  mono : ∀ u v k, F u < Inf → T u = none → T v = some k → F u ≤ k
  s0 : ok s = true → F s ≤ 0
  bnd : ∀ v, F v < Inf → F v ≤ K * 4294967296
/-- What a walk comes to while the search goes on. -/
theorem Inv.reach {l : List A} {ok : Nat → Bool} {s : Nat} {F : Nat → Int} {T : Nat → Option Int} {K : Nat} (h : Inv l ok s F T K (fun _ => False)) (hw : ∀ x ∈ l, 0 ≤ x.w) {v : Nat} {d : Int} (w : Wk l ok s v d) :
    F v ≤ d ∨ ∃ u k, T u = some k ∧ k ≤ d := by
  induction w with
  | nil e => exact Or.inl (h.s0 e)
  | snoc hx _ ho ih =>
    rename_i x d hd
    have hwx := hw x hx
    rcases ih with ih | ⟨u, k, h1, h2⟩
    · by_cases e : F (src x) < Inf
      · cases ht : T (src x) with
        | none =>
          obtain ⟨j, hj, rfl⟩ := mem_ar hx
          have := h.st j hj (fun h => h) e ht ho
          exact Or.inl (by omega)
        | some k =>
          obtain ⟨h1, h2⟩ := h.key _ _ ht
          exact Or.inr ⟨_, k, ht, by omega⟩
      · have := h.hi (dst x)
        exact Or.inl (by omega)
    · exact Or.inr ⟨u, k, h1, by omega⟩
/-- Where no key is less than a length, it is the distance. -/
theorem Inv.exact {l : List A} {ok : Nat → Bool} {s : Nat} {F : Nat → Int} {T : Nat → Option Int} {K : Nat} (h : Inv l ok s F T K (fun _ => False)) (hw : ∀ x ∈ l, 0 ≤ x.w) {v : Nat} (hk : ∀ u k, T u = some k → F v ≤ k) {d : Int} (w : Wk l ok s v d) : F v ≤ d := by
  rcases h.reach hw w with h1 | ⟨u, k, h1, h2⟩
  · exact h1
  · have := hk u k h1; omega
theorem Inv.isD {l : List A} {ok : Nat → Bool} {s : Nat} {F : Nat → Int} {T : Nat → Option Int} {K : Nat} (h : Inv l ok s F T K (fun _ => False)) (hw : ∀ x ∈ l, 0 ≤ x.w) (hk : ∀ u, T u = none) : IsD l ok s F :=
  ⟨h.lo, h.hi, h.wk, fun v d w => h.exact hw (fun u k e => by rw [hk u] at e; cases e) w⟩
/-- A search that begins. -/
theorem Inv.init (l : List A) (ok : Nat → Bool) (s : Nat) (pe : Nat → Prop) (h : ok s = false) : Inv l ok s (fun _ => Inf) (fun _ => none) 0 pe :=
  ⟨fun _ => (by unfold Inf; omega), fun _ => Int.le_refl _, fun _ e => absurd e (by omega), fun _ _ e => (by cases e), fun _ _ _ e => absurd e (by omega), fun _ _ _ e => absurd e (by omega), fun e => (by rw [h] at e; cases e), fun _ e => absurd e (by omega)⟩
theorem Inv.init0 (l : List A) (ok : Nat → Bool) (s : Nat) (pe : Nat → Prop) (h : ok s = true) : Inv l ok s (updI (fun _ => Inf) s 0) (upd (fun _ => none) s (some 0)) 0 pe := by
  have c : ∀ v, updI (fun _ => Inf) s 0 v = if v = s then 0 else Inf := fun v => rfl
  have t : ∀ v, upd (fun _ => none) s (some 0) v = if v = s then some 0 else none := fun v => rfl
  have i0 : (0 : Int) < Inf := by unfold Inf; omega
  refine ⟨fun v => ?_, fun v => ?_, fun v e => ?_, fun v k e => ?_, fun j _ _ e1 e2 => ?_, fun u v k e1 e2 => ?_, fun _ => ?_, fun v e => ?_⟩
  · rw [c]; split <;> omega
  · rw [c]; split <;> omega
  · rw [c] at e ⊢; split at e
    · rename_i e'; subst e'; rw [if_pos rfl]; exact Wk.nil h
    · omega
  · rw [t] at e; rw [c]; split at e
    · rename_i e'; rw [if_pos e']; injection e with e; exact ⟨e.symm, i0⟩
    · cases e
  · rw [c] at e1; rw [t] at e2; split at e1
    · rename_i e'; rw [if_pos e'] at e2; cases e2
    · omega
  · rw [c] at e1; rw [t] at e2; split at e1
    · rename_i e'; rw [if_pos e'] at e2; cases e2
    · omega
  · rw [c, if_pos rfl]; omega
  · rw [c] at e ⊢; split at e
    · rename_i e'; rw [if_pos e']; omega
    · omega
/-- The vertex that is done now: v at d; of its arcs those below k are left. -/
structure Mid (l : List A) (ok : Nat → Bool) (s : Nat) (F : Nat → Int) (T : Nat → Option Int) (K : Nat) (v : Nat) (d : Int) (k : Nat) : Prop where
  inv : Inv l ok s F T (K + 1) (fun j => src (ar l j) = v ∧ j < k)
  fv : F v = d
  tv : T v = none
  di : d < Inf
  dk : d ≤ K * 4294967296
  top : ∀ u, F u < Inf → T u = none → F u ≤ d
theorem Inv.pop {l : List A} {ok : Nat → Bool} {s : Nat} {F : Nat → Int} {T : Nat → Option Int} {K : Nat} (h : Inv l ok s F T K (fun _ => False)) {v : Nat} {d : Int} (ht : T v = some d) (hm : ∀ y k, T y = some k → d ≤ k) (m : Nat) (hl : l.length ≤ m) :
    Mid l ok s F (upd T v none) K v d m := by
  obtain ⟨e1, e2⟩ := h.key v d ht
  have sub : ∀ y k, upd T v none y = some k → T y = some k := fun y k e => by
    by_cases hy : y = v
    · subst hy; rw [upd_self] at e; cases e
    · rwa [upd_ne _ _ hy] at e
  have bn := h.bnd v e2
  refine ⟨⟨h.lo, h.hi, h.wk, fun y k e => h.key y k (sub y k e), fun j hj hp e3 e4 e5 => ?_, fun u y k e3 e4 e5 => ?_, h.s0, fun u e => ?_⟩, e1.symm, upd_self _ _ _, by omega, by omega, fun u e3 e4 => ?_⟩
  · by_cases hu : src (ar l j) = v
    · exact absurd ⟨hu, by omega⟩ hp
    · exact h.st j hj (fun h => h) e3 (by rwa [upd_ne _ _ hu] at e4) e5
  · by_cases hu : u = v
    · subst hu; have := hm y k (sub y k e5); omega
    · exact h.mono u y k e3 (by rwa [upd_ne _ _ hu] at e4) (sub y k e5)
  · have := h.bnd u e; push_cast; omega
  · by_cases hu : u = v
    · subst hu; omega
    · exact h.mono u v d e3 (by rwa [upd_ne _ _ hu] at e4) ht
theorem Mid.done {l : List A} {ok : Nat → Bool} {s : Nat} {F : Nat → Int} {T : Nat → Option Int} {K v : Nat} {d : Int} {k : Nat} (h : Mid l ok s F T K v d k) (hn : ∀ j, j < k → src (ar l j) ≠ v) : Inv l ok s F T (K + 1) (fun _ => False) :=
  ⟨h.inv.lo, h.inv.hi, h.inv.wk, h.inv.key, fun j hj _ => h.inv.st j hj (fun e => hn j e.2 e.1), h.inv.mono, h.inv.s0, h.inv.bnd⟩
/-- An arc that changes nothing. -/
theorem Mid.skip {l : List A} {ok : Nat → Bool} {s : Nat} {F : Nat → Int} {T : Nat → Option Int} {K v : Nat} {d : Int} {k j : Nat} (h : Mid l ok s F T K v d k) (hj : j < l.length) (hs : src (ar l j) = v) (hn : ∀ i, j < i → i < k → src (ar l i) ≠ v)
    (ht : ¬ (ok (dst (ar l j)) = true ∧ sat d (ar l j).w < F (dst (ar l j)))) : Mid l ok s F T K v d j := by
  refine ⟨⟨h.inv.lo, h.inv.hi, h.inv.wk, h.inv.key, fun i hi hp e1 e2 e3 => ?_, h.inv.mono, h.inv.s0, h.inv.bnd⟩, h.fv, h.tv, h.di, h.dk, h.top⟩
  by_cases hij : i = j
  · subst hij
    have h1 : F (dst (ar l i)) ≤ sat d (ar l i).w := by
      by_cases h2 : sat d (ar l i).w < F (dst (ar l i))
      · exact absurd ⟨e3, h2⟩ ht
      · omega
    have h2 := sat_le d (ar l i).w
    rw [hs, h.fv]
    omega
  · refine h.inv.st i hi (fun e => ?_) e1 e2 e3
    by_cases h2 : i < j
    · exact hp ⟨e.1, h2⟩
    · exact hn i (by omega) e.2 e.1
/-- An arc over which a vertex lies nearer. -/
theorem Mid.take {l : List A} {ok : Nat → Bool} {s : Nat} {F : Nat → Int} {T : Nat → Option Int} {K v : Nat} {d : Int} {k j : Nat} (h : Mid l ok s F T K v d k) (hw : ∀ x ∈ l, 0 ≤ x.w ∧ x.w < 4294967296) (hj : j < l.length) (hs : src (ar l j) = v) (hn : ∀ i, j < i → i < k → src (ar l i) ≠ v)
    (ho : ok (dst (ar l j)) = true) (hlt : sat d (ar l j).w < F (dst (ar l j))) : Mid l ok s (updI F (dst (ar l j)) (sat d (ar l j).w)) (upd T (dst (ar l j)) (some (sat d (ar l j).w))) K v d j := by
  have hwx := hw _ (ar_mem hj)
  have hx1 := h.inv.hi (dst (ar l j))
  have hd0 := h.inv.lo v
  rw [h.fv] at hd0
  have hsat : sat d (ar l j).w = d + (ar l j).w := sat_lt (by omega)
  have hwalk : Wk l ok s (dst (ar l j)) (d + (ar l j).w) := by
    refine Wk.snoc (ar_mem hj) ?_ ho
    rw [hs]
    have := h.inv.wk v (by rw [h.fv]; exact h.di)
    rwa [h.fv] at this
  rw [hsat] at hlt ⊢
  have hdk := h.dk
  generalize hX : dst (ar l j) = x at *
  generalize hW : (ar l j).w = wj at *
  have hxs : ¬ (F x < Inf ∧ T x = none) := fun e => by have := h.top x e.1 e.2; omega
  have hxv : v ≠ x := by
    intro e
    refine hxs ⟨?_, ?_⟩
    · rw [← e, h.fv]; exact h.di
    · rw [← e]; exact h.tv
  have hT : ∀ y, upd T x (some (d + wj)) y = none → y ≠ x ∧ T y = none := fun y e => by
    by_cases hy : y = x
    · subst hy; rw [upd_self] at e; cases e
    · exact ⟨hy, by rwa [upd_ne _ _ hy] at e⟩
  refine ⟨⟨fun y => ?_, fun y => ?_, fun y e => ?_, fun y q e => ?_, fun i hi hp e1 e2 e3 => ?_, fun u y q e1 e2 e3 => ?_, fun e => ?_, fun y e => ?_⟩, ?_, ?_, h.di, h.dk, fun u e1 e2 => ?_⟩
  · by_cases hy : y = x
    · subst hy; rw [updI_self]; omega
    · rw [updI_ne _ _ hy]; exact h.inv.lo y
  · by_cases hy : y = x
    · subst hy; rw [updI_self]; omega
    · rw [updI_ne _ _ hy]; exact h.inv.hi y
  · by_cases hy : y = x
    · subst hy; rw [updI_self]; exact hwalk
    · rw [updI_ne _ _ hy] at e ⊢; exact h.inv.wk y e
  · by_cases hy : y = x
    · subst hy; rw [upd_self] at e; rw [updI_self]; injection e with e; exact ⟨e.symm, by omega⟩
    · rw [upd_ne _ _ hy] at e; rw [updI_ne _ _ hy]; exact h.inv.key y q e
  · obtain ⟨hux, htu⟩ := hT _ e2
    rw [updI_ne _ _ hux] at e1 ⊢
    by_cases hij : i = j
    · subst hij
      rw [hX, updI_self, hW, hs, h.fv]
      omega
    · have h3 : F (dst (ar l i)) ≤ F (src (ar l i)) + (ar l i).w := by
        refine h.inv.st i hi (fun e => ?_) e1 htu e3
        by_cases h2 : i < j
        · exact hp ⟨e.1, h2⟩
        · exact hn i (by omega) e.2 e.1
      by_cases hy : dst (ar l i) = x
      · rw [hy, updI_self]; rw [hy] at h3; omega
      · rw [updI_ne _ _ hy]; exact h3
  · obtain ⟨hux, htu⟩ := hT _ e2
    rw [updI_ne _ _ hux] at e1 ⊢
    have h5 := h.top u e1 htu
    by_cases hy : y = x
    · subst hy; rw [upd_self] at e3; injection e3 with e3; omega
    · rw [upd_ne _ _ hy] at e3; exact h.inv.mono u y q e1 htu e3
  · have := h.inv.s0 e
    by_cases hy : s = x
    · subst hy; rw [updI_self]; omega
    · rw [updI_ne _ _ hy]; exact this
  · by_cases hy : y = x
    · subst hy; rw [updI_self]; push_cast; omega
    · rw [updI_ne _ _ hy] at e ⊢; exact h.inv.bnd y e
  · rw [updI_ne _ _ hxv]; exact h.fv
  · rw [upd_ne _ _ hxv]; exact h.tv
  · obtain ⟨hux, htu⟩ := hT _ e2
    rw [updI_ne _ _ hux] at e1 ⊢
    exact h.top u e1 htu
/-- How many vertices are done. -/
def dn (F : Nat → Int) (T : Nat → Option Int) : Nat → Nat
  | 0 => 0
  | k + 1 => dn F T k + (if F k < Inf ∧ T k = none then 1 else 0)
theorem dn_le (F : Nat → Int) (T : Nat → Option Int) (n : Nat) : dn F T n ≤ n := by
  induction n with
  | zero => exact Nat.le_refl _
  | succ k ih => unfold dn; split <;> omega
theorem dn_congr {F G : Nat → Int} {T U : Nat → Option Int} (n : Nat) (h : ∀ v, v < n → ((F v < Inf ∧ T v = none) ↔ (G v < Inf ∧ U v = none))) : dn F T n = dn G U n := by
  induction n with
  | zero => rfl
  | succ k ih =>
    unfold dn
    rw [ih (fun v hv => h v (by omega))]
    have := h k (by omega)
    by_cases e : F k < Inf ∧ T k = none
    · rw [if_pos e, if_pos (this.1 e)]
    · rw [if_neg e, if_neg (fun e' => e (this.2 e'))]
theorem dn_pop {F : Nat → Int} {T : Nat → Option Int} {v : Nat} {d : Int} (n : Nat) (hv : v < n) (ht : T v = some d) (hf : F v < Inf) : dn F (upd T v none) n = dn F T n + 1 := by
  induction n with
  | zero => omega
  | succ k ih =>
    unfold dn
    by_cases e : v = k
    · subst e
      rw [upd_self, if_pos ⟨hf, rfl⟩, if_neg (fun e' => by rw [ht] at e'; cases e'.2)]
      rw [dn_congr (G := F) (U := T) v (fun y hy => by rw [upd_ne _ _ (by omega)])]
    · rw [ih (by omega), upd_ne _ _ (fun h => e h.symm)]
      omega
/-- The last id below k of an arc out of v; -1: none. -/
def lastAt (l : List A) (v : Nat) : Nat → Int
  | 0 => -1
  | k + 1 => if src (ar l k) = v then k else lastAt l v k
theorem lastAt_none {l : List A} {v : Nat} : ∀ {k : Nat}, lastAt l v k = -1 → ∀ j, j < k → src (ar l j) ≠ v := by
  intro k
  induction k with
  | zero => intro _ j hj; omega
  | succ k ih =>
    intro h j hj
    unfold lastAt at h
    split at h
    · omega
    · rename_i hk
      by_cases e : j = k
      · subst e; exact hk
      · exact ih h j (by omega)
theorem lastAt_some {l : List A} {v : Nat} : ∀ {k : Nat}, lastAt l v k ≠ -1 → ∃ j, lastAt l v k = (j : Nat) ∧ j < k ∧ src (ar l j) = v ∧ ∀ i, j < i → i < k → src (ar l i) ≠ v := by
  intro k
  induction k with
  | zero => intro h; exact absurd rfl h
  | succ k ih =>
    intro h
    by_cases hk : src (ar l k) = v
    · exact ⟨k, by simp [lastAt, hk], by omega, hk, fun i h1 h2 => by omega⟩
    · have e : lastAt l v (k + 1) = lastAt l v k := by simp [lastAt, hk]
      rw [e] at h ⊢
      obtain ⟨j, h1, h2, h3, h4⟩ := ih h
      refine ⟨j, h1, by omega, h3, fun i h5 h6 => ?_⟩
      by_cases e2 : i = k
      · subst e2; exact hk
      · exact h4 i h5 (by omega)
end Go.Proofs.YtpmjbeiclmllmaaGreat.N5
