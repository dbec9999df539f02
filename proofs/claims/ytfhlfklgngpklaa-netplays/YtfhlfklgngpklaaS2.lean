/-
  Both nets beside each other: a call of the one, a call of the other, in either order.
-/
import Derived.Test.YtfhlfklgngpklaaS1
namespace Go.Proofs.Ytfhlfklgngpklaa
open Go.RowKit Go.Maps
/-- Both nets, apart. -/
def PTo (w w' : World) (n r : Nat) (S : NS) (R : RS) (P D : Nat → Prop) : Prop :=
  ∃ P' D', NT w' n P' S ∧ RK w' r R D' ∧ (∀ k, P' k → ¬ D' k) ∧ (∀ k, P' k → P k ∨ w.heap.size ≤ k) ∧ (∀ k, D' k → D k ∨ w.heap.size ≤ k) ∧ Fr (fun k => P k ∨ D k) w w'
section
variable {w w1 w2 w' : World} {n r : Nat} {P D : Nat → Prop} {S S' : NS} {R R' : RS}
theorem PTo.pr (hr : RK w r R D) (hj : ∀ k, P k → ¬ D k) (h : To w w1 n P S') (h2 : RTo w1 w2 r R' D) : PTo w w2 n r S' R' P D := by
  obtain ⟨P', a, b, f⟩ := h
  obtain ⟨D', a', b', f'⟩ := h2
  have hD := hr.lt
  have hj' : ∀ k, P' k → ¬ D k := fun k hk hd => by
    rcases b k hk with e | e
    · exact hj k e hd
    · have := hD k hd
      omega
  refine ⟨P', D', a.fr f' hj', a', fun k hk hd => ?_, b, fun k hk => ?_, ?_⟩
  · rcases b' k hd with e | e
    · exact hj' k hk e
    · have := NT.lt a hk
      omega
  · rcases b' k hk with e | e
    · exact Or.inl e
    · have := f.size
      exact Or.inr (by omega)
  · exact (f.mono (fun k hk => Or.inl hk)).trans f' (fun k hk => Or.inl (Or.inr hk))
theorem PTo.rp (hp : NT w n P S) (hj : ∀ k, P k → ¬ D k) (h : RTo w w1 r R' D) (h2 : To w1 w2 n P S') : PTo w w2 n r S' R' P D := by
  obtain ⟨D', a', b', f'⟩ := h
  obtain ⟨P', a, b, f⟩ := h2
  have hP := fun k (hk : P k) => NT.lt hp hk
  have hj' : ∀ k, D' k → ¬ P k := fun k hk hp => by
    rcases b' k hk with e | e
    · exact hj k hp e
    · have := hP k hp
      omega
  refine ⟨P', D', a, a'.fr f hj', fun k hk hd => ?_, fun k hk => ?_, b', ?_⟩
  · rcases b k hk with e | e
    · exact hj' k hd e
    · have := a'.lt k hd
      omega
  · rcases b k hk with e | e
    · exact Or.inl e
    · have := f'.size
      exact Or.inr (by omega)
  · exact (f'.mono (fun k hk => Or.inr hk)).trans f (fun k hk => Or.inl (Or.inl hk))
theorem PTo.after (h : PTo w1 w' n r S R P D) (hb : Below w.heap.size w w1) : PTo w w' n r S R P D := by
  obtain ⟨P', D', a, b, c, e, e', f⟩ := h
  have := hb.size
  exact ⟨P', D', a, b, c, fun k hk => (e k hk).imp id (fun h => by omega), fun k hk => (e' k hk).imp id (fun h => by omega), (Fr.of hb).then f⟩
theorem PTo.same (h : PTo w w1 n r S R P D) (hb : Below w1.heap.size w1 w2) : PTo w w2 n r S R P D := by
  obtain ⟨P', D', a, b, c, e, e', f⟩ := h
  exact ⟨P', D', a.on hb, b.on hb, c, e, e', f.trans (Fr.of (D := fun _ => False) hb) (fun k hk => hk.elim)⟩
theorem To.same (h : To w w1 n P S') (hb : Below w1.heap.size w1 w2) : To w w2 n P S' := by
  obtain ⟨P', a, b, f⟩ := h
  exact ⟨P', a.on hb, b, f.trans (Fr.of (D := fun _ => False) hb) (fun k hk => hk.elim)⟩
theorem RTo.same (h : RTo w w1 r R' D) (hb : Below w1.heap.size w1 w2) : RTo w w2 r R' D := by
  obtain ⟨D', a, b, f⟩ := h
  exact ⟨D', a.on hb, b, f.trans (Fr.of (D := fun _ => False) hb) (fun k hk => hk.elim)⟩
theorem To.rk (h : To w w1 n P S') (hr : RK w r R D) (hj : ∀ k, P k → ¬ D k) : RK w1 r R D := by
  obtain ⟨P', _, _, f⟩ := h
  exact hr.fr f (fun k hd hp => hj k hp hd)
theorem RTo.nt (h : RTo w w1 r R' D) (hp : NT w n P S) (hj : ∀ k, P k → ¬ D k) : NT w1 n P S := by
  obtain ⟨D', _, _, f⟩ := h
  exact hp.fr f hj
theorem bx_to {W W1 : World} {g : Nat} {o : Obj} (h : W.heap[g]? = some o) (hg : ¬ P g) (f : To W W1 n P S') : W1.heap[g]? = some o := by
  obtain ⟨_, _, _, f⟩ := f
  exact (f.block g (lt_of_block h) hg).trans h
theorem bx_rto {W W1 : World} {g : Nat} {o : Obj} (h : W.heap[g]? = some o) (hg : ¬ D g) (f : RTo W W1 r R' D) : W1.heap[g]? = some o := by
  obtain ⟨_, _, _, f⟩ := f
  exact (f.block g (lt_of_block h) hg).trans h
/-- Both orders of the two calls. -/
def Both (W0 : World) (n r : Nat) (P D : Nat → Prop) (S' : NS) (R' : RS) (F G : Nat) (ap ar : Array Value) (E : Value) : Prop :=
  (∀ W, Below W0.heap.size W0 W → Calls Try.prog F ap W fun e w' => e = .returned E ∧ To W0 w' n P S') ∧
  (∀ w3, To W0 w3 n P S' → ∀ W, Below w3.heap.size w3 W → Calls Try.prog G ar W fun e w' => e = .returned E ∧ PTo W0 w' n r S' R' P D) ∧
  (∀ W, Below W0.heap.size W0 W → Calls Try.prog G ar W fun e w' => e = .returned E ∧ RTo W0 w' r R' D) ∧
  (∀ w3, RTo W0 w3 r R' D → ∀ W, Below w3.heap.size w3 W → Calls Try.prog F ap W fun e w' => e = .returned E ∧ PTo W0 w' n r S' R' P D)
theorem toAfter {W0 W : World} (hb : Below W0.heap.size W0 W) (h : To W w' n P S') : To W0 w' n P S' := by
  obtain ⟨P', a, b, f⟩ := h
  have := hb.size
  exact ⟨P', a, fun k hk => (b k hk).imp id (fun h => by omega), (Fr.of hb).then f⟩
theorem both {W0 : World} {F G : Nat} {ap ar : Array Value} {E : Value} (hd : NT W0 n P S) (hr : RK W0 r R D) (hj : ∀ k, P k → ¬ D k)
    (cp : ∀ W, NT W n P S → Calls Try.prog F ap W fun e w' => e = .returned E ∧ To W w' n P S')
    (cr : ∀ W, RK W r R D → Calls Try.prog G ar W fun e w' => e = .returned E ∧ RTo W w' r R' D) : Both W0 n r P D S' R' F G ap ar E := by
  refine ⟨fun W hb => ?_, fun w3 h3 W hb => ?_, fun W hb => ?_, fun w3 h3 W hb => ?_⟩
  · refine (cp W (hd.on hb)).mono ?_
    rintro e w' ⟨rfl, h⟩
    exact ⟨rfl, toAfter hb h⟩
  · refine (cr W ((h3.same hb).rk hr hj)).mono ?_
    rintro e w' ⟨rfl, h⟩
    exact ⟨rfl, PTo.pr hr hj (h3.same hb) h⟩
  · refine (cr W (hr.on hb)).mono ?_
    rintro e w' ⟨rfl, h⟩
    exact ⟨rfl, h.after (fun _ hk => Or.inl hk) (Fr.of hb)⟩
  · refine (cp W ((h3.same hb).nt hd hj)).mono ?_
    rintro e w' ⟨rfl, h⟩
    exact ⟨rfl, PTo.rp hd hj (h3.same hb) h⟩
theorem cells5 {w : World} {g : Nat} {a b c e f : Value} {t : TypeId} (h : w.heap[g]? = some (.cells #[a, b, c, e, f] t (0, 0))) : w.cell? ⟨g, 0, none⟩ = some a ∧ w.cell? ⟨g, 1, none⟩ = some b ∧ w.cell? ⟨g, 2, none⟩ = some c ∧ w.cell? ⟨g, 3, none⟩ = some e ∧ w.cell? ⟨g, 4, none⟩ = some f := by
  refine ⟨?_, ?_, ?_, ?_, ?_⟩ <;> rw [cell_of_row _ _ _ _ _ _ h] <;> rfl
end
end Go.Proofs.Ytfhlfklgngpklaa
