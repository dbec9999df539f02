/-
  A region that draws its order, by an invariant: one obligation for each operation, whatever came before it.
-/
import Derived.Test.YtpgadcacimjlaabFPipe
namespace Go.Proofs.Ytpgadcacimjlaab.F6
open Go
section
variable {P : Program} {Q : Exit → Act → World → Prop} {md : Region.Mode}
/-- How many operations have not come yet. -/
def togo (listed : Array Bool) : Nat → Nat
  | 0 => 0
  | n + 1 => togo listed n + if listed.getD n true = false then 1 else 0
theorem togo_zero {listed : Array Bool} : ∀ n, togo listed n = 0 → ∀ i, i < n → listed.getD i true = true
  | 0, _, i, hi => absurd hi (Nat.not_lt_zero _)
  | n + 1, h, i, hi => by
    simp only [togo] at h
    by_cases e : i = n
    · subst e
      cases hx : listed.getD i true with
      | true => rfl
      | false => rw [hx] at h; simp at h
    · exact togo_zero n (by omega) i (by omega)
theorem togo_same {listed : Array Bool} {i : Nat} : ∀ n, n ≤ i → togo (listed.setIfInBounds i true) n = togo listed n
  | 0, _ => rfl
  | n + 1, h => by
    have e : (listed.setIfInBounds i true).getD n true = listed.getD n true := by
      have : i ≠ n := by omega
      simp [this]
    simp only [togo, togo_same n (by omega : n ≤ i), e]
theorem togo_set {listed : Array Bool} {i : Nat} (hl : listed.getD i true = false) : ∀ n, i < n → togo (listed.setIfInBounds i true) n + 1 = togo listed n
  | 0, h => absurd h (Nat.not_lt_zero _)
  | n + 1, h => by
    have his : i < listed.size := by
      by_cases e : i < listed.size
      · exact e
      · simp [e] at hl
    by_cases e : i = n
    · subst e
      have e1 : (listed.setIfInBounds i true).getD i true = true := by simp [his]
      simp only [togo, togo_same i (Nat.le_refl i), e1, hl]
      simp
    · have e1 : (listed.setIfInBounds i true).getD n true = listed.getD n true := by simp [e]
      have := togo_set hl n (by omega)
      simp only [togo, e1]
      omega
theorem any_inv {ops : Array Oper} (I : Array Bool → Act → World → Prop)
    (hstep : ∀ listed a w i o, I listed a w → i ∈ Region.ready md ops listed → ops[i]? = some o → wpOp P ops Q i (I (listed.setIfInBounds i true)) a w)
    (hend : ∀ listed a w, I listed a w → Region.ready md ops listed = [] → Q .normal a w) :
    ∀ (fuel : Nat) (listed : Array Bool) (a : Act) (w : World), togo listed ops.size ≤ fuel → I listed a w → wpAny P md ops Q fuel listed a w := by
  intro fuel
  induction fuel with
  | zero =>
    intro listed a w hf hI
    have hr : Region.ready md ops listed = [] := by
      rw [List.eq_nil_iff_forall_not_mem]
      intro j hj
      obtain ⟨h3, oj, h4, _⟩ := mem_ready.1 hj
      have hjs : j < ops.size := (Array.getElem?_eq_some_iff.1 h4).1
      have := togo_zero (listed := listed) ops.size (by omega) j hjs
      rw [h3] at this
      cases this
    exact ⟨hr, hend _ _ _ hI hr⟩
  | succ fuel ih =>
    intro listed a w hf hI
    refine ⟨fun hr => hend _ _ _ hI hr, fun i hi => ?_⟩
    obtain ⟨h3, o, h4, _⟩ := mem_ready.1 hi
    have his : i < ops.size := (Array.getElem?_eq_some_iff.1 h4).1
    refine wpOp_mono (fun a' w' hI' => ih _ a' w' ?_ hI') (hstep listed a w i o hI hi h4)
    have := togo_set h3 ops.size his
    omega
theorem togo_le (listed : Array Bool) : ∀ n, togo listed n ≤ n
  | 0 => Nat.le_refl _
  | n + 1 => by
    have := togo_le listed n
    simp only [togo]
    split <;> omega
/-- The law. -/
theorem wp_region_inv {id : Nat} {ops : Array Oper} {a : Act} {w : World} (hf : P.follows .mixedOrders = true) (I : Array Bool → Act → World → Prop) (h0 : I (Array.replicate ops.size false) a w.drew)
    (hstep : ∀ listed a w i o, I listed a w → i ∈ Region.ready .any ops listed → ops[i]? = some o → wpOp P ops Q i (I (listed.setIfInBounds i true)) a w)
    (hend : ∀ listed a w, I listed a w → Region.ready .any ops listed = [] → Q .normal a w) : (Code.region id ops true).wp P Q a w :=
  wp_region_any hf (any_inv I hstep hend _ _ _ _ (togo_le _ _) h0)
end
end Go.Proofs.Ytpgadcacimjlaab.F6
