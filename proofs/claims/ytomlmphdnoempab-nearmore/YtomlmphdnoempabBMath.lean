/-
  Searching from both ends.
-/
import Derived.Test.YtomlmphdnoempabSMath
import Derived.Test.YtomlmphdnoempabReverse
namespace Go.Proofs.Ytomlmphdnoempab
open Hp (upd upd_self upd_ne)
/-- All vertices. -/
abbrev Al : Nat → Bool := fun _ => true
theorem turn_mem {l : List A} {x : A} (h : x ∈ l) : x.turn ∈ turned l := List.mem_map_of_mem h
theorem mem_turn {l : List A} {x : A} (h : x ∈ turned l) : x.turn ∈ l := by
  unfold turned at h
  obtain ⟨y, hy, rfl⟩ := List.mem_map.1 h
  exact hy
theorem Wk.back {l : List A} {s t v : Nat} {d : Int} (h : Wk l Al s v d) : ∀ {e : Int}, Wk (turned l) Al t v e → Wk (turned l) Al t s (d + e) := by
  induction h with
  | nil _ => intro e h; rw [Int.zero_add]; exact h
  | @snoc x d hx _ _ ih =>
    intro e h
    have h1 := ih (Wk.snoc (turn_mem hx) (show Wk (turned l) Al t (src x.turn) e from h) rfl)
    rwa [show d + x.w + e = d + (e + x.turn.w) by show _ = d + (e + x.w); omega]
theorem Wk.join {l : List A} {s t v : Nat} {e : Int} (h : Wk (turned l) Al t v e) : ∀ {d : Int}, Wk l Al s v d → Wk l Al s t (d + e) := by
  induction h with
  | nil _ => intro d h; rw [Int.add_zero]; exact h
  | @snoc x e hx _ _ ih =>
    intro d h
    have h1 := ih (Wk.snoc (mem_turn hx) (show Wk l Al s (src x.turn) d from h) rfl)
    rwa [show d + (e + x.w) = d + x.turn.w + e by show _ = d + x.w + e; omega]
theorem turned_rg {n : Nat} {l : List A} (g : RG n l) : RG n (turned l) := by
  refine ⟨g.n1, g.nb, by rw [turned_len]; exact g.lb, fun x hx => ?_, fun x hx => ?_⟩
  · have := g.ends _ (mem_turn hx); exact ⟨this.2, this.1⟩
  · exact (show 0 ≤ x.turn.w ∧ x.turn.w < 4294967296 from g.wt _ (mem_turn hx))
/-- The distance between two vertices. -/
structure IsT (l : List A) (s t : Nat) (d : Int) : Prop where
  lo : 0 ≤ d
  hi : d ≤ Inf
  wk : d < Inf → Wk l Al s t d
  le : ∀ e, Wk l Al s t e → d ≤ e
theorem IsD.at {l : List A} {s : Nat} {F : Nat → Int} (h : IsD l Al s F) (t : Nat) : IsT l s t (F t) := ⟨h.lo t, h.hi t, h.wk t, h.le t⟩
theorem IsT.unique {l : List A} {s t : Nat} {d e : Int} (h : IsT l s t d) (k : IsT l s t e) : d = e := by
  have h1 : d ≤ e := by
    by_cases q : e < Inf
    · exact h.le _ (k.wk q)
    · have := h.hi; omega
  have h2 : e ≤ d := by
    by_cases q : d < Inf
    · exact k.le _ (h.wk q)
    · have := k.hi; omega
  omega
/-- Where both searches have come so far, no walk is shorter than the best that was found. -/
theorem meet_done {l : List A} {s t : Nat} {F G : Nat → Int} {T U : Nat → Option Int} {K M : Nat} {a b best : Int} (hi : Inv l Al s F T K (fun _ => False)) (hj : Inv (turned l) Al t G U M (fun _ => False)) (hw : ∀ x ∈ l, 0 ≤ x.w)
    (hm : ∀ v, best ≤ sat (F v) (G v)) (ha : ∀ u k, T u = some k → a ≤ k) (hb : ∀ u k, U u = some k → b ≤ k) (ha' : a ≤ Inf) (he : best ≤ sat a b) {d : Int} (w : Wk l Al s t d) : best ≤ d := by
  have hw' : ∀ x ∈ turned l, 0 ≤ x.w := fun x hx => (show 0 ≤ x.turn.w from hw _ (mem_turn hx))
  have key : ∀ {u : Nat} {q : Int}, Wk (turned l) Al t u q → ∀ p, F u ≤ p → best ≤ p + q := by
    intro u q h
    induction h with
    | nil _ =>
      intro p hp
      have h1 := hj.s0 rfl
      have h2 := hm t
      have h3 := sat_le (F t) (G t)
      omega
    | snoc hx hprev ho ih =>
      rename_i x q
      intro p hp
      rcases hj.reach hw' (Wk.snoc hx hprev ho) with h1 | ⟨u, k, h1, h2⟩
      · have h2 := hm (dst x)
        have h3 := sat_le (F (dst x)) (G (dst x))
        omega
      · have h3 := hb u k h1
        by_cases hpa : a ≤ p
        · have := sat_le a b; omega
        · have hF : F (dst x) < Inf := by omega
          have hT : T (dst x) = none := by
            cases e : T (dst x) with
            | none => rfl
            | some k' =>
              have h4 := ha _ _ e
              have h5 := hi.key _ _ e
              omega
          obtain ⟨j, hjl, hje⟩ := mem_ar (mem_turn hx)
          have h6 := hi.st j hjl (fun h => h) (by rw [hje]; exact hF) (by rw [hje]; exact hT) rfl
          rw [hje] at h6
          have h7 : F (src x) ≤ F (dst x) + x.w := h6
          have h8 := ih (p + x.w) (by omega)
          omega
  have h1 := w.back (Wk.nil (l := turned l) (ok := Al) (s := t) rfl)
  have h2 := key h1 0 (hi.s0 rfl)
  omega
/-- What the two searches keep of what they found. -/
structure BJ (l : List A) (s t : Nat) (F G : Nat → Int) (best : Int) : Prop where
  lo : 0 ≤ best
  hi : best ≤ Inf
  wk : best < Inf → Wk l Al s t best
  le : ∀ v, best ≤ sat (F v) (G v)
theorem BJ.init (l : List A) (s t : Nat) : BJ l s t (fun _ => Inf) (fun _ => Inf) Inf :=
  ⟨by unfold Inf; omega, Int.le_refl _, fun h => absurd h (by omega), fun _ => by unfold sat Inf; simp⟩
theorem minI_le (a b : Int) : (if b < a then b else a) ≤ a ∧ (if b < a then b else a) ≤ b := by split <;> omega
theorem BJ.ahead {l : List A} {s t : Nat} {F G : Nat → Int} {best : Int} (h : BJ l s t F G best) {v : Nat} {d : Int} (hd : Wk l Al s v d) (hg : ∀ u, G u < Inf → Wk (turned l) Al t u (G u)) (hd0 : 0 ≤ d) (hg0 : ∀ u, 0 ≤ G u) : BJ l s t (updI F v d) G (if sat d (G v) < best then sat d (G v) else best) := by
  have h0 := h.lo
  have h1 := h.hi
  have h2 := hg0 v
  have h3 := minI_le best (sat d (G v))
  refine ⟨?_, by omega, fun hb => ?_, fun u => ?_⟩
  · split
    · exact sat_ge (by omega) (by unfold Inf; omega)
    · exact h0
  · split
    · rename_i hlt
      have h4 : sat d (G v) < Inf := by omega
      have h5 := sat_lt h4
      rw [h5]
      exact (hg v (by omega)).join hd
    · rename_i hlt; rw [if_neg hlt] at hb; exact h.wk hb
  · by_cases e : u = v
    · subst e; rw [updI_self]; exact h3.2
    · rw [updI_ne _ _ e]; have := h.le u; omega
theorem sat_comm (a b : Int) : sat a b = sat b a := by unfold sat; rw [Int.add_comm]
theorem BJ.behind {l : List A} {s t : Nat} {F G : Nat → Int} {best : Int} (h : BJ l s t F G best) {v : Nat} {d : Int} (hd : Wk (turned l) Al t v d) (hf : ∀ u, F u < Inf → Wk l Al s u (F u)) (hd0 : 0 ≤ d) (hf0 : ∀ u, 0 ≤ F u) : BJ l s t F (updI G v d) (if sat d (F v) < best then sat d (F v) else best) := by
  have h0 := h.lo
  have h1 := h.hi
  have h2 := hf0 v
  have h3 := minI_le best (sat d (F v))
  refine ⟨?_, by omega, fun hb => ?_, fun u => ?_⟩
  · split
    · exact sat_ge (by omega) (by unfold Inf; omega)
    · exact h0
  · split
    · rename_i hlt
      have h4 : sat d (F v) < Inf := by omega
      have h5 := sat_lt h4
      rw [h5, Int.add_comm]
      exact hd.join (hf v (by omega))
    · rename_i hlt; rw [if_neg hlt] at hb; exact h.wk hb
  · by_cases e : u = v
    · subst e; rw [updI_self, sat_comm (F u) d]; exact h3.2
    · rw [updI_ne _ _ e]; have := h.le u; omega
end Go.Proofs.Ytomlmphdnoempab
