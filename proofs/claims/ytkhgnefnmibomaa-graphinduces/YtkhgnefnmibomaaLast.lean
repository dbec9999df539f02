/-
  A region that draws its order and whose last operation waits for all others: it may be walked with an idle operation in that one's place, which is carried out behind it.
-/
import Derived.Deep.RegionHeld3
namespace Go.Proofs.Ytkhgnefnmibomaa
open Go
/-- What is asked behind the region without its last operation. -/
def lastQ (P : Program) (o : Oper) (Q : Exit → Act → World → Prop) : Exit → Act → World → Prop
  | .normal, a, w => o.wp P a w (fun a' w' => Q .normal a' w') Q
  | e, a, w => Q e a w
/-- The idle operation. -/
def idle (o : Oper) : Oper := { o with op := .move (.const (.bool true)) }
section
variable {P : Program} {Q Q' : Exit → Act → World → Prop} {md : Region.Mode}
theorem wp_turn {o : Oper} {a : Act} {w : World} {K K' : Act → World → Prop} (hK : ∀ a w, K a w → K' a w) (hQ : ∀ e a w, e ≠ .normal → Q e a w → Q' e a w) (h : o.wp P a w K Q) : o.wp P a w K' Q' := by
  have hL : LetsOut Q → LetsOut Q' := fun ⟨a, w, h⟩ => ⟨a, w, hQ _ _ _ (by simp) h⟩
  unfold Oper.wp at *
  generalize (execOp a.eval o).run P w = r at *
  cases r with
  | ok n w' =>
    cases n <;> simp only [Oper.upon] at h ⊢ <;>
      first
        | exact hK _ _ h
        | exact Calls.mono h (fun e w'' he => by cases e <;> first | exact hK _ _ he | exact hL he | exact hQ _ _ _ (by simp) he)
        | exact Rows.mono h (fun _ _ he => hK _ _ he)
        | exact h
  | halt x w' => cases x <;> simp only [Oper.upon] at h ⊢ <;> first | exact hQ _ _ _ (by simp) h | exact h
theorem idle_run (o : Oper) (a : Act) (w : World) : (execOp a.eval (idle o)).run P w = .ok (.value (.bool true)) w := by
  simp [execOp, idle, Act.eval]
theorem idle_asks (o : Oper) (a : Act) (w : World) : ¬ (idle o).asks P a w := by
  intro h
  have h1 := h.1
  simp [execOp, idle, Act.eval] at h1
  cases (Array.not_mem_empty _ h1 : False)
/-- Every operation waits for earlier ones alone; the last one for all. -/
def lastOK (md : Region.Mode) (ops : Array Oper) (m : Nat) : Bool :=
  ops.size == m + 1 && (List.range ops.size).all (fun j => (ops[j]?).all (fun o => o.after.all (fun e => decide (e.on < j)))) && ((ops[m]?).all (fun o => o.guard.isNone && o.dst.isNone && (List.range m).all (fun j => o.after.any (fun e => Region.binds md e && e.on == j))))
theorem ready_some {ops : Array Oper} {m : Nat} (hok : lastOK md ops m = true) {listed : Array Bool} : ∀ j, j < ops.size → listed.getD j true = false → (∀ i, i < j → listed.getD i false = true) → j ∈ Region.ready md ops listed := by
  intro j hj hl hb
  simp only [lastOK, Bool.and_eq_true, List.all_eq_true, List.mem_range] at hok
  refine mem_ready.2 ⟨hl, ops[j], by simp [hj], fun e he _ => hb _ ?_⟩
  have := hok.1.2 j hj
  rw [Array.getElem?_eq_getElem hj] at this
  simp only [Option.all_some, Array.all_eq_true] at this
  obtain ⟨i, hi, rfl⟩ := Array.mem_iff_getElem.1 he
  simpa using this i hi
theorem getD_set_same {l : Array Bool} {i : Nat} {b : Bool} (h : i < l.size) : (l.setIfInBounds i true).getD i b = true := by simp [h]
theorem getD_set_other {l : Array Bool} {i j : Nat} {b : Bool} (h : i ≠ j) : (l.setIfInBounds i true).getD j b = l.getD j b := by
  simp [h]
/-- Something may come up as long as something has not. -/
theorem ready_ne {ops : Array Oper} {m : Nat} (hok : lastOK md ops m = true) {listed : Array Bool} (hs : listed.size = ops.size) (j : Nat) (hj : j < ops.size) (hl : listed.getD j true = false) : Region.ready md ops listed ≠ [] := by
  induction j using Nat.strongRecOn with
  | ind j ih =>
    by_cases h : ∀ i, i < j → listed.getD i false = true
    · intro e
      have := ready_some hok j hj hl h
      rw [e] at this
      cases this
    · simp only [Classical.not_forall] at h
      obtain ⟨i, hi, hn⟩ := h
      refine ih i hi (by omega) ?_
      have hi' : i < listed.size := by omega
      simp [hi'] at hn ⊢
      exact hn
theorem ready_last {ops : Array Oper} {m : Nat} (hok : lastOK md ops m = true) {listed : Array Bool} (h : m ∈ Region.ready md ops listed) : ∀ j, j < m → listed.getD j false = true := by
  intro j hj
  obtain ⟨_, o, ho, ha⟩ := mem_ready.1 h
  simp only [lastOK, Bool.and_eq_true, List.all_eq_true, List.mem_range] at hok
  have := hok.2
  rw [ho] at this
  simp only [Option.all_some, Bool.and_eq_true, List.all_eq_true, List.mem_range] at this
  have h2 := this.2 j hj
  rw [Array.any_eq_true] at h2
  obtain ⟨i, hi, h3⟩ := h2
  simp only [Bool.and_eq_true, beq_iff_eq] at h3
  have := ha _ (Array.getElem_mem hi) h3.1
  rw [h3.2] at this
  exact this
/-- The region with the idle operation in the last one's place. -/
def idled (ops : Array Oper) (m : Nat) : Array Oper := ops.modify m idle
theorem idled_get (ops : Array Oper) (m j : Nat) : (idled ops m)[j]? = if j = m then (ops[j]?).map idle else ops[j]? := by
  unfold idled
  rw [Array.getElem?_modify]
  by_cases h : m = j
  · subst h; simp
  · rw [if_neg h, if_neg (fun e => h e.symm)]
theorem idled_ready (ops : Array Oper) (m : Nat) (listed : Array Bool) : Region.ready md (idled ops m) listed = Region.ready md ops listed := by
  unfold Region.ready
  rw [show (idled ops m).size = ops.size by simp [idled]]
  congr 1
  funext i
  rw [idled_get]
  split
  · cases ops[i]? <;> rfl
  · rfl
theorem idled_yielded (ops : Array Oper) (m : Nat) (tmps : Array Value) : yielded (idled ops m) tmps = yielded ops tmps := by
  funext j
  have h : ((idled ops m)[j]?).bind (·.dst) = (ops[j]?).bind (·.dst) := by
    rw [idled_get]
    split
    · cases ops[j]? <;> rfl
    · rfl
  unfold yielded
  rw [h]
theorem any_end {ops : Array Oper} {fuel : Nat} {listed : Array Bool} {a : Act} {w : World} (hr : Region.ready md ops listed = []) : wpAny P md ops Q fuel listed a w ↔ Q .normal a w := by
  cases fuel with
  | zero => simp [wpAny, hr]
  | succ n => simp [wpAny, hr]
theorem any_last {ops : Array Oper} {m : Nat} {o : Oper} (hok : lastOK md ops m = true) (hm : ops[m]? = some o) : ∀ (fuel : Nat) (listed : Array Bool) (a : Act) (w : World), listed.size = ops.size → listed.getD m true = false →
    wpAny P md (idled ops m) (lastQ P o Q) fuel listed a w → wpAny P md ops Q fuel listed a w := by
  have hms : m < ops.size := (Array.getElem?_eq_some_iff.1 hm).1
  have hpa := hok
  simp only [lastOK, Bool.and_eq_true, beq_iff_eq] at hpa
  have hog : o.guard = none ∧ o.dst = none := by
    have h2 := hpa.2
    rw [hm] at h2
    simp only [Option.all_some, Bool.and_eq_true, Option.isNone_iff_eq_none] at h2
    exact ⟨h2.1.1, h2.1.2⟩
  intro fuel
  induction fuel with
  | zero =>
    intro listed a w hs hl h
    have h1 := h.1
    rw [idled_ready] at h1
    exact absurd h1 (ready_ne hok hs m hms hl)
  | succ fuel ih =>
    intro listed a w hs hl h
    refine ⟨fun h1 => absurd h1 (ready_ne hok hs m hms hl), fun i hi => ?_⟩
    have h2 := h.2 i (by rw [idled_ready]; exact hi)
    by_cases him : i = m
    · subst him
      have hall := ready_last hok hi
      have hend : Region.ready md ops (listed.setIfInBounds i true) = [] := by
        rw [List.eq_nil_iff_forall_not_mem]
        intro j hj
        obtain ⟨h3, oj, h4, _⟩ := mem_ready.1 hj
        have hjs : j < ops.size := (Array.getElem?_eq_some_iff.1 h4).1
        by_cases hji : i = j
        · subst hji
          rw [getD_set_same (by omega)] at h3
          cases h3
        · rw [getD_set_other hji] at h3
          have h5 := hall j (by omega)
          have h6 : j < listed.size := by omega
          simp [h6] at h3 h5
          rw [h3] at h5
          cases h5
      unfold wpOp at h2 ⊢
      rw [idled_get, if_pos rfl, hm] at h2
      rw [hm]
      simp only [Option.map_some] at h2 ⊢
      have hw1 : Region.wanted (idle o) (yielded (idled ops i) a.tmps) = true := by simp [Region.wanted, idle, hog.1]
      have hw2 : Region.wanted o (yielded ops a.tmps) = true := by simp [Region.wanted, hog.1]
      rw [if_pos hw1] at h2
      rw [if_pos hw2]
      rcases h2 with h2 | h2
      · left
        unfold Oper.wp at h2
        rw [idle_run] at h2
        simp only [Oper.upon] at h2
        rw [show (idle o).dst = none from hog.2, any_end (by rw [idled_ready]; exact hend)] at h2
        exact wp_turn (fun a' w' hq => (any_end hend).2 hq) (fun _ _ _ _ hq => hq) h2
      · exact absurd h2.1 (idle_asks o a w)
    · have hx : ops[i]? = (idled ops m)[i]? := by rw [idled_get, if_neg him]
      have hK : ∀ a' w', wpAny P md (idled ops m) (lastQ P o Q) fuel (listed.setIfInBounds i true) a' w' → wpAny P md ops Q fuel (listed.setIfInBounds i true) a' w' := fun a' w' hh =>
        ih _ a' w' (by simpa using hs) (by rw [getD_set_other him]; exact hl) hh
      have hQ : ∀ e a w, e ≠ .normal → lastQ P o Q e a w → Q e a w := fun e a w he hq => by cases e <;> first | exact hq | exact absurd rfl he
      unfold wpOp at h2 ⊢
      rw [idled_yielded, ← hx] at h2
      cases ho : ops[i]? with
      | none => rw [ho] at h2; exact hK _ _ h2
      | some oi =>
        rw [ho] at h2
        simp only at h2 ⊢
        split at h2
        · rename_i hw
          rw [if_pos hw]
          rcases h2 with h2 | h2
          · exact Or.inl (wp_turn hK hQ h2)
          · exact Or.inr ⟨h2.1, by obtain ⟨a, w, h3⟩ := h2.2; exact ⟨a, w, h3⟩⟩
        · rename_i hw
          rw [if_neg hw]
          exact hK _ _ h2
/-- THE LAW: the last operation is carried out behind the region. -/
theorem wp_region_last {id : Nat} {ops : Array Oper} {a : Act} {w : World} {S : World → Prop} (m : Nat) (o : Oper) (hf : P.follows .mixedOrders = true) (hok : lastOK .any ops m = true) (hm : ops[m]? = some o) (ops' : Array Oper) (ho : idled ops m = ops')
    (hS : S w.drew) (h : S w.drew → wpAnyH P .any ops' (lastQ P o Q) S ops'.size (Array.replicate ops'.size false) a w.drew) : (Code.region id ops true).wp P Q a w := by
  have hms : m < ops.size := (Array.getElem?_eq_some_iff.1 hm).1
  have hsz : ops'.size = ops.size := by rw [← ho]; simp [idled]
  refine wp_region_any hf (any_last hok hm _ _ _ _ (by simp) (by simp [hms]) ?_)
  have h1 := wpAny_of_held _ _ _ _ (h hS)
  rw [hsz] at h1
  rw [ho]
  exact h1
end
end Go.Proofs.Ytkhgnefnmibomaa
