/-
  The first region of flow.lay: six lists are made, in any order.
-/
import Derived.Test.YtpgadcacimjlaabFPushC
import Derived.Test.YtpgadcacimjlaabFRInv
import Derived.Laws.MakeOwn
namespace Go.Proofs.Ytpgadcacimjlaab.F6
open Go.RowKit
/-- An operation that yields a value. -/
theorem wpOp_val {P : Program} {ops : Array Oper} {Q : Exit → Act → World → Prop} {i : Nat} {o : Oper} {v : Value} {K : Act → World → Prop} {a : Act} {w w' : World} (ho : ops[i]? = some o) (hg : o.guard = none)
    (hr : ∀ ρ : Operand → Value, (∀ x, a.eval x = ρ x) → (execOp ρ o).run P w = .ok (.value v) w') (h : K (a.put o.dst v) w') : wpOp P ops Q i K a w := by
  refine wpOp_step ho (fun K' hK => ?_)
  rw [if_pos (by simp [Region.wanted, hg])]
  unfold Oper.wp
  rw [hr a.eval (fun _ => rfl)]
  exact hK _ _ h
/-- The frame in the region. -/
def fr27 (x0 x1 : Value) (U : Nat → Value) : Act := { tmps := #[x0, x1, .pointer none, U 3, undef, undef, undef, undef, undef, U 9, U 10, U 11, U 12, U 13, U 14, U 15, U 16, U 17, U 18, U 19, U 20, U 21, U 22, U 23, U 24, U 25, U 26, U 27, U 28, U 29, undef, undef, undef, undef, undef, undef, undef, undef, undef, undef, undef, undef, undef, undef, undef, undef, undef, undef, undef, undef, undef, undef, undef, undef, undef, undef, undef, undef, undef, undef, undef, undef, undef, undef, undef, undef, undef, undef, undef, undef, undef, undef, undef, undef, undef, undef, undef, undef, undef, undef, undef, undef, undef, undef, undef, undef, undef, undef], defers := [] }
theorem fr27_put (x0 x1 : Value) (U : Nat → Value) (v : Value) (s : Nat) (hs : s = 3 ∨ (9 ≤ s ∧ s < 30)) : (fr27 x0 x1 U).put (some s) v = fr27 x0 x1 (updV U s v) := by
  have h : s = 3 ∨ s = 9 ∨ s = 10 ∨ s = 11 ∨ s = 12 ∨ s = 13 ∨ s = 14 ∨ s = 15 ∨ s = 16 ∨ s = 17 ∨ s = 18 ∨ s = 19 ∨ s = 20 ∨ s = 21 ∨ s = 22 ∨ s = 23 ∨ s = 24 ∨ s = 25 ∨ s = 26 ∨ s = 27 ∨ s = 28 ∨ s = 29 := by omega
  rcases h with h | h | h | h | h | h | h | h | h | h | h | h | h | h | h | h | h | h | h | h | h | h <;> subst h <;> rfl
theorem fr27_eval (x0 x1 : Value) (U : Nat → Value) (s : Nat) (hs : s = 3 ∨ (9 ≤ s ∧ s < 30)) : (fr27 x0 x1 U).eval (.tmp s) = U s := by
  have h : s = 3 ∨ s = 9 ∨ s = 10 ∨ s = 11 ∨ s = 12 ∨ s = 13 ∨ s = 14 ∨ s = 15 ∨ s = 16 ∨ s = 17 ∨ s = 18 ∨ s = 19 ∨ s = 20 ∨ s = 21 ∨ s = 22 ∨ s = 23 ∨ s = 24 ∨ s = 25 ∨ s = 26 ∨ s = 27 ∨ s = 28 ∨ s = 29 := by omega
  rcases h with h | h | h | h | h | h | h | h | h | h | h | h | h | h | h | h | h | h | h | h | h | h <;> subst h <;> rfl
/-- The slot of an operation. -/
def sl27 (j : Nat) : Nat := if j = 21 then 3 else 9 + j
/-- What an operation yields; B: the blocks that are made. -/
def v27 (p : Nat) (a : Option Addr) (N m cap : Nat) (B : Nat → Nat) (j : Nat) : Value :=
  if j = 0 then .pointer (some ⟨p, 1, none⟩)
  else if j = 1 then .slice a m cap
  else if j = 2 then .int .i64 m
  else if j = 3 then .slice (some ⟨B 3, 0, none⟩) m m
  else if j = 6 then .slice (some ⟨B 6, 0, none⟩) N N
  else if j = 9 then .slice (some ⟨B 9, 0, none⟩) N N
  else if j = 12 then .slice (some ⟨B 12, 0, none⟩) N N
  else if j = 15 then .slice (some ⟨B 15, 0, none⟩) 0 N
  else if j = 18 then .slice (some ⟨B 18, 0, none⟩) 0 N
  else if j = 19 then .agg #[.slice (some ⟨B 3, 0, none⟩) m m, .slice (some ⟨B 6, 0, none⟩) N N, .slice (some ⟨B 9, 0, none⟩) N N, .slice (some ⟨B 12, 0, none⟩) N N, .slice (some ⟨B 15, 0, none⟩) 0 N, .slice (some ⟨B 18, 0, none⟩) 0 N, .int .u32 0]
  else if j = 20 then .pointer (some ⟨B 20, 0, none⟩)
  else if j = 21 then .pointer (some ⟨B 20, 0, none⟩)
  else if j % 3 = 1 then .pointer (some ⟨p, 0, none⟩)
  else .int .i64 N
/-- The operations that make memory. -/
def mk27 (j : Nat) : Bool := j == 3 || j == 6 || j == 9 || j == 12 || j == 15 || j == 18 || j == 20
/-- What is made. -/
def ob27 (N m : Nat) (B : Nat → Nat) (j : Nat) : Obj :=
  if j = 3 then .cells ((List.range (m * 6)).map (lv [] (fun _ => 0) (fun _ => 0))).toArray 118 (0, 0)
  else if j = 20 then .cells #[.slice (some ⟨B 3, 0, none⟩) m m, .slice (some ⟨B 6, 0, none⟩) N N, .slice (some ⟨B 9, 0, none⟩) N N, .slice (some ⟨B 12, 0, none⟩) N N, .slice (some ⟨B 15, 0, none⟩) 0 N, .slice (some ⟨B 18, 0, none⟩) 0 N, .int .u32 0] 113 (0, 0)
  else .cells ((List.range N).map (fun _ => Value.int .i64 0)).toArray 3 (0, 0)
def on (L : Array Bool) (j : Nat) : Prop := L.getD j false = true
/-- While the region goes on. -/
structure I27 (W : World) (p : Nat) (a : Option Addr) (N m cap : Nat) (U : Nat → Value) (B : Nat → Nat) (L : Array Bool) (w : World) : Prop where
  sz : L.size = 22
  vals : ∀ j, j < 22 → on L j → U (sl27 j) = v27 p a N m cap B j
  made : ∀ j, j < 22 → mk27 j = true → on L j → w.heap[B j]? = some (ob27 N m B j) ∧ W.heap.size ≤ B j
  apart : ∀ i j, i < 22 → j < 22 → mk27 i = true → mk27 j = true → on L i → on L j → i ≠ j → B i ≠ B j
  late : on L 19 → on L 3 ∧ on L 6 ∧ on L 9 ∧ on L 12 ∧ on L 15 ∧ on L 18
  late2 : on L 20 → on L 19
  late3 : on L 21 → on L 20
  below : Below W.heap.size W w
theorem on_set {L : Array Bool} {i j : Nat} (h : on (L.setIfInBounds i true) j) : j = i ∨ on L j := by
  by_cases e : j = i
  · exact .inl e
  · refine .inr ?_
    unfold on at *
    rwa [getD_set_ne false (fun h => e h.symm)] at h
theorem on_keep {L : Array Bool} {i j : Nat} (h : on L j) : on (L.setIfInBounds i true) j := by
  by_cases e : j = i
  · subst e
    unfold on at *
    have : j < L.size := by
      by_cases h2 : j < L.size
      · exact h2
      · simp [h2] at h
    simp [this]
  · unfold on at *
    rwa [getD_set_ne false (fun h => e h.symm)]
theorem sl27_inj {i j : Nat} (hi : i < 22) (hj : j < 22) (h : sl27 i = sl27 j) : i = j := by
  unfold sl27 at h
  split at h <;> split at h <;> omega
section
variable {W : World} {p : Nat} {a : Option Addr} {N m cap : Nat} {U : Nat → Value} {B : Nat → Nat} {L : Array Bool} {w : World}
/-- An operation that makes nothing. -/
theorem I27.quiet (h : I27 W p a N m cap U B L w) {i : Nat} (hi : i < 22) (hn : mk27 i = false) (h19 : i = 19 → on L 3 ∧ on L 6 ∧ on L 9 ∧ on L 12 ∧ on L 15 ∧ on L 18) (h21 : i = 21 → on L 20) : I27 W p a N m cap (updV U (sl27 i) (v27 p a N m cap B i)) B (L.setIfInBounds i true) w := by
  have hno : ∀ j, mk27 j = true → on (L.setIfInBounds i true) j → on L j := fun j hj ho => by
    rcases on_set ho with rfl | ho
    · rw [hn] at hj; cases hj
    · exact ho
  refine ⟨by simp [h.sz], fun j hj ho => ?_, fun j hj hm ho => h.made j hj hm (hno j hm ho), fun x y hx hy mx my ox oy => h.apart x y hx hy mx my (hno x mx ox) (hno y my oy), fun ho => ?_, fun ho => ?_, fun ho => ?_, h.below⟩
  · by_cases e : j = i
    · subst e; rw [updV_self]
    · rw [updV_ne _ _ (fun h2 => e (sl27_inj hj hi h2))]
      rcases on_set ho with e2 | ho
      · exact absurd e2 e
      · exact h.vals j hj ho
  · have : on L 3 ∧ on L 6 ∧ on L 9 ∧ on L 12 ∧ on L 15 ∧ on L 18 := by
      rcases on_set ho with e | ho
      · exact h19 e.symm
      · exact h.late ho
    obtain ⟨a1, a2, a3, a4, a5, a6⟩ := this
    exact ⟨on_keep a1, on_keep a2, on_keep a3, on_keep a4, on_keep a5, on_keep a6⟩
  · have h20 : on L 20 := hno 20 rfl ho
    exact on_keep (h.late2 h20)
  · rcases on_set ho with e | ho
    · exact on_keep (h21 e.symm)
    · exact on_keep (h.late3 ho)
/-- One that makes a list or the header. -/
theorem I27.make (h : I27 W p a N m cap U B L w) {i : Nat} (hi : i < 22) (hm : mk27 i = true) (hl : L.getD i true = false) (h20 : i = 20 → on L 19) (o : Obj) (he : o = ob27 N m (fun j => if j = i then w.heap.size else B j) i) (v : Value) (hv : v = v27 p a N m cap (fun j => if j = i then w.heap.size else B j) i) :
    I27 W p a N m cap (updV U (sl27 i) v) (fun j => if j = i then w.heap.size else B j) (L.setIfInBounds i true) (w.alloc o) := by
  have hoff : ¬ on L i := fun ho => by
    unfold on at ho
    by_cases h2 : i < L.size
    · simp [h2] at ho hl; rw [ho] at hl; cases hl
    · simp [h2] at ho
  have hsame : ∀ j, j < 22 → on L j → v27 p a N m cap (fun j => if j = i then w.heap.size else B j) j = v27 p a N m cap B j := fun j hj ho => by
    have hij : j ≠ i := fun e => hoff (e ▸ ho)
    have k19 : on L 19 → i ≠ 3 ∧ i ≠ 6 ∧ i ≠ 9 ∧ i ≠ 12 ∧ i ≠ 15 ∧ i ≠ 18 := fun h19 => by
      obtain ⟨a1, a2, a3, a4, a5, a6⟩ := h.late h19
      exact ⟨fun e => hoff (e ▸ a1), fun e => hoff (e ▸ a2), fun e => hoff (e ▸ a3), fun e => hoff (e ▸ a4), fun e => hoff (e ▸ a5), fun e => hoff (e ▸ a6)⟩
    by_cases e19 : j = 19
    · subst e19
      obtain ⟨a1, a2, a3, a4, a5, a6⟩ := k19 ho
      simp [v27, Ne.symm a1, Ne.symm a2, Ne.symm a3, Ne.symm a4, Ne.symm a5, Ne.symm a6]
    · by_cases e21 : j = 21
      · subst e21
        have : 20 ≠ i := fun e => hoff (e ▸ h.late3 ho)
        simp [v27, this]
      · have hc : j = 0 ∨ j = 1 ∨ j = 2 ∨ j = 3 ∨ j = 4 ∨ j = 5 ∨ j = 6 ∨ j = 7 ∨ j = 8 ∨ j = 9 ∨ j = 10 ∨ j = 11 ∨ j = 12 ∨ j = 13 ∨ j = 14 ∨ j = 15 ∨ j = 16 ∨ j = 17 ∨ j = 18 ∨ j = 20 := by omega
        rcases hc with h2 | h2 | h2 | h2 | h2 | h2 | h2 | h2 | h2 | h2 | h2 | h2 | h2 | h2 | h2 | h2 | h2 | h2 | h2 | h2 <;> subst h2 <;> first | rfl | simp [v27, hij]
  have hold : ∀ j, j < 22 → mk27 j = true → on L j → w.heap[B j]? = some (ob27 N m (fun j => if j = i then w.heap.size else B j) j) := fun j hj hmj ho => by
    have hij : j ≠ i := fun e => hoff (e ▸ ho)
    rw [(h.made j hj hmj ho).1]
    congr 1
    by_cases e20 : j = 20
    · subst e20
      obtain ⟨a1, a2, a3, a4, a5, a6⟩ := h.late (h.late2 ho)
      have b1 : 3 ≠ i := fun e => hoff (e ▸ a1)
      have b2 : 6 ≠ i := fun e => hoff (e ▸ a2)
      have b3 : 9 ≠ i := fun e => hoff (e ▸ a3)
      have b4 : 12 ≠ i := fun e => hoff (e ▸ a4)
      have b5 : 15 ≠ i := fun e => hoff (e ▸ a5)
      have b6 : 18 ≠ i := fun e => hoff (e ▸ a6)
      simp [ob27, b1, b2, b3, b4, b5, b6]
    · unfold ob27
      rw [if_neg e20, if_neg e20]
  have hlt : ∀ j, j < 22 → mk27 j = true → on L j → B j < w.heap.size := fun j hj hmj ho => lt_of_block (h.made j hj hmj ho).1
  refine ⟨by simp [h.sz], fun j hj ho => ?_, fun j hj hmj ho => ?_, fun x y hx hy mx my ox oy hxy => ?_, fun ho => ?_, fun ho => ?_, fun ho => ?_, h.below.alloc h.below.size _⟩
  · by_cases e : j = i
    · subst e; rw [updV_self, hv]
    · rw [updV_ne _ _ (fun h2 => e (sl27_inj hj hi h2))]
      rcases on_set ho with e2 | ho
      · exact absurd e2 e
      · rw [hsame j hj ho]; exact h.vals j hj ho
  · rcases on_set ho with rfl | ho
    · simp only [if_true]
      exact ⟨by rw [heap_top, he], h.below.size⟩
    · have hij : j ≠ i := fun e => hoff (e ▸ ho)
      simp only [if_neg hij]
      exact ⟨(Below.heap_alloc _ _ _ (hlt j hj hmj ho)).trans (hold j hj hmj ho), (h.made j hj hmj ho).2⟩
  · rcases on_set ox with ex | ox
    · rcases on_set oy with ey | oy
      · exact absurd (ex.trans ey.symm) hxy
      · have := hlt y hy my oy
        have hyi : y ≠ i := fun e => hoff (e ▸ oy)
        simp only [ex, if_true, if_neg hyi]
        omega
    · have hxi : x ≠ i := fun e => hoff (e ▸ ox)
      have hx2 := hlt x hx mx ox
      rcases on_set oy with ey | oy
      · simp only [ey, if_true, if_neg hxi]
        omega
      · have hyi : y ≠ i := fun e => hoff (e ▸ oy)
        simp only [if_neg hxi, if_neg hyi]
        exact h.apart x y hx hy mx my ox oy hxy
  · rcases on_set ho with e | ho
    · subst e; cases hm
    · obtain ⟨a1, a2, a3, a4, a5, a6⟩ := h.late ho
      exact ⟨on_keep a1, on_keep a2, on_keep a3, on_keep a4, on_keep a5, on_keep a6⟩
  · rcases on_set ho with e | ho
    · exact on_keep (h20 e.symm)
    · exact on_keep (h.late2 ho)
  · rcases on_set ho with e | ho
    · subst e; cases hm
    · exact on_keep (h.late3 ho)
/-- At the end all have come up. -/
theorem all_on {ops : Array Oper} {L : Array Bool} (hok : (List.range ops.size).all (fun j => (ops[j]?).all (fun o => o.after.all (fun e => decide (e.on < j)))) = true) (hs : L.size = ops.size) (hr : Region.ready .any ops L = []) : ∀ j, j < ops.size → on L j := by
  intro j
  induction j using Nat.strongRecOn with
  | ind j ih =>
    intro hj
    by_cases h : on L j
    · exact h
    · exfalso
      have hl : L.getD j true = false := by
        unfold on at h
        have hj2 : j < L.size := by omega
        simp [hj2] at h ⊢
        exact h
      have : j ∈ Region.ready .any ops L := by
        refine mem_ready.2 ⟨hl, ops[j], by simp [hj], fun e he _ => ih _ ?_ ?_⟩
        · simp only [List.all_eq_true, List.mem_range] at hok
          have := hok j hj
          rw [Array.getElem?_eq_getElem hj] at this
          simp only [Option.all_some, Array.all_eq_true] at this
          obtain ⟨i, hi, rfl⟩ := Array.mem_iff_getElem.1 he
          simpa using this i hi
        · simp only [List.all_eq_true, List.mem_range] at hok
          have := hok j hj
          rw [Array.getElem?_eq_getElem hj] at this
          simp only [Option.all_some, Array.all_eq_true] at this
          obtain ⟨i, hi, rfl⟩ := Array.mem_iff_getElem.1 he
          have := this i hi
          simp at this
          omega
      rw [hr] at this
      cases this
theorem I27.start {W : World} (p : Nat) (a : Option Addr) (N m cap : Nat) : I27 W p a N m cap (fun _ => undef) (fun _ => 0) (Array.replicate 22 false) W.drew := by
  have hno : ∀ j, ¬ on (Array.replicate 22 false) j := fun j h => by
    unfold on at h
    by_cases e : j < 22
    · simp [e] at h
    · simp [e] at h
  exact ⟨by simp, fun j _ h => absurd h (hno j), fun j _ _ h => absurd h (hno j), fun i j _ _ _ _ h => absurd h (hno i), fun h => absurd h (hno _), fun h => absurd h (hno _), fun h => absurd h (hno _), (Below.refl _ _).drew⟩
end
end Go.Proofs.Ytpgadcacimjlaab.F6
