/-
  The statement 'for v := range w.around(centre)': whatever its body collects in a row of its own.
-/
import Derived.Test.YtpgadcacimjlaaaAround
namespace Go.Proofs.Ytpgadcacimjlaaa
open Go.RowKit Go.Shelf
theorem fr_grown {w w' : World} {r : Nat} (h : w.grownBy w' (some r)) : Fr (fun j => j = r) w w' := ⟨h.os, h.tape, h.output, h.size, fun k hk hn => h.block k hk (fun e => hn (Option.some.inj e))⟩
theorem fr_put (W : World) (r : Nat) (o : Obj) : Fr (fun j => j = r) W (W.putObj r o) := fr_grown (grownBy_putObj' W r o)
/-- How the body of a round may be left. -/
def rPost (r : Nat) (I I2 : List Nat → Option Nat → World → Prop) (Cx : Code → List Nat → Prop) (xs : List Nat) (ρ : Option Nat) (W : World) : Exit → Act → World → Prop
  | .normal, _, W' => ∃ ρ', I xs ρ' W' ∧ Fr (fun j => j = r ∨ some j = ρ) W W' ∧ (ρ' = ρ ∨ ∃ b, ρ' = some b ∧ W.heap.size ≤ b)
  | .exit id, _, W' => ∃ ρ', I2 xs ρ' W' ∧ Fr (fun j => j = r ∨ some j = ρ) W W' ∧ (ρ' = ρ ∨ ∃ b, ρ' = some b ∧ W.heap.size ≤ b) ∧ Cx (.exit id) xs
  | _, _, _ => False
/-- What the caller holds, and its row's block, abide the iterator's steps. -/
structure Abd (B f b1 b2 bs p1 p2 : Nat) (ar : Option Addr) (l : List A) (I : List Nat → Option Nat → World → Prop) : Prop where
  on : ∀ pre ρ W W' j0, I pre ρ W → B ≤ j0 → ρ ≠ some j0 → Fr (fun j => j = bs ∨ j = j0) W W' → I pre ρ W'
  row : ∀ pre ρ W b, I pre ρ W → ρ = some b → (∃ cs t fr, W.heap[b]? = some (.cells cs t fr)) ∧ ¬ Ib f b1 b2 bs p1 p2 ar l b
set_option maxHeartbeats 2000000 in
theorem range_around {g : Operand} {tp : Tmp} {assign body : Code} {Q : Exit → Act → World → Prop} {a : Act} {w : World} {n f b1 b2 bs N p1 p2 c r : Nat} {ar : Option Addr} {cap : Nat} {l : List A} {S : Nat → Bool}
    (hn : 2 ≤ n) (hg : a.eval g = .func (.func 37) #[] #[.pointer (some ⟨p1, 0, none⟩), .pointer (some ⟨p2, 0, none⟩)])
    (gf : Gf (w.heap.size + 2) f b1 b2 bs N ar l) (hc : c < N) (hlt : f < w.heap.size ∧ b1 < w.heap.size ∧ b2 < w.heap.size ∧ bs < w.heap.size ∧ p1 < w.heap.size ∧ p2 < w.heap.size ∧ (∀ j, abl ar l j → j < w.heap.size) ∧ r < w.heap.size) (hp : p1 ≠ bs ∧ p2 ≠ bs) (hr : ¬ Ib f b1 b2 bs p1 p2 ar l r)
    (gr : Gr w f b1 b2 bs N ar cap l S) (hc1 : w.cell? ⟨p1, 0, none⟩ = some (.pointer (some ⟨f, 0, none⟩))) (hc2 : w.cell? ⟨p2, 0, none⟩ = some (.int .i64 c))
    (I I2 : List Nat → Option Nat → World → Prop) (Cx : Code → List Nat → Prop)
    (hA : Abd w.heap.size f b1 b2 bs p1 p2 ar l I) (hA2 : Abd w.heap.size f b1 b2 bs p1 p2 ar l I2)
    (ρ0 : Option Nat) (h0 : I [] ρ0 w) (a₁ : Nat → Act)
    (hassign : ∀ (L : Nat) (x : Nat) (W : World) (K : Act → World → Prop), K (a₁ x) W →
      assign.wpIn (Fence.wide.inRound L) (n - 1 - 1) Try.prog (Exit.then K (fun _ _ _ => False)) { tmps := ((#[tp] : Array Tmp).zip #[Value.int .i64 (x : Int)]).foldl (fun t (p, v) => t.setIfInBounds p v) a.tmps, defers := [] } W)
    (hbody : ∀ (L : Nat) (pre : List Nat) (ρ : Option Nat) (x : Nat) (W : World), I pre ρ W → pre ++ [x] <+: whole (edl l) (2 * l.length) N S c → body.wpIn (Fence.wide.inRound L) (n - 1 - 1) Try.prog (rPost r I I2 Cx (pre ++ [x]) ρ W) (a₁ x) W)
    (hdone : ∀ (ρ : Option Nat) (W : World), I (whole (edl l) (2 * l.length) N S c) ρ W → Gr W f b1 b2 bs N ar cap l (gro (edl l) (2 * l.length) N S c N).2 → W.heap[w.heap.size]? = some (.deferred (some [])) → Q .normal { a with defers := { target := .collected w.heap.size, args := #[] } :: a.defers } W)
    (hstop : ∀ (cd : Code) (pre : List Nat) (ρ : Option Nat) (W : World), pre <+: whole (edl l) (2 * l.length) N S c → Cx cd pre → I2 pre ρ W → W.heap[w.heap.size]? = some (.deferred (some [])) → cd.wpIn Fence.wide n Try.prog Q { a with defers := { target := .collected w.heap.size, args := #[] } :: a.defers } W) :
    (Code.rangeFunc g #[tp] assign body).wpIn Fence.wide n Try.prog Q a w := by
  refine wpIn_rangeFunc ?_
  intro fn hfn
  obtain ⟨rec, hrec⟩ : ∃ rec : LoopState → Option Code → Loop, rec = fun st pe => { state := st, pending := pe, fn, tmps := a.tmps, params := #[tp], assign, body, defers := w.heap.size } := ⟨_, rfl⟩
  obtain ⟨W1, hW1⟩ : ∃ W1, (w.alloc (.deferred (some []))).alloc (.loop (rec .ready none)) = W1 := ⟨_, rfl⟩
  have hL1 : W1.heap[w.heap.size + 1]? = some (.loop (rec .ready none)) := by
    rw [← hW1]; have := World.alloc_heap_new (w.alloc (.deferred (some []))) (.loop (rec .ready none)); rwa [World.size_alloc] at this
  have hK1 : W1.heap[w.heap.size]? = some (.deferred (some [])) := by
    rw [← hW1]; exact (Below.heap_alloc _ _ _ (by simp)).trans (World.alloc_heap_new w _)
  have hS1 : W1.heap.size = w.heap.size + 2 := by rw [← hW1]; simp
  have hF1 : Fr (fun _ => False) w W1 := by rw [← hW1]; exact ((Fr.refl _ w).alloc _).alloc _
  have hne0 : ∀ pre ρ W b, I pre ρ W → ρ = some b → b < W.heap.size := fun pre ρ W b hi e => by
    obtain ⟨⟨cs, t, fr, h⟩, _⟩ := hA.row pre ρ W b hi e
    exact lt_of_block h
  have hI1 : I [] ρ0 W1 := hA.on _ _ _ _ w.heap.size h0 (Nat.le_refl _) (fun e => Nat.lt_irrefl _ (hne0 _ _ _ _ h0 e)) (hF1.imp (fun _ h => h.elim))
  refine ⟨w.heap.size + 1, [{ target := .collected w.heap.size, args := #[] }], W1, { target := .fn (.func 37) #[.pointer (some ⟨p1, 0, none⟩), .pointer (some ⟨p2, 0, none⟩)], args := #[.func (.yield (w.heap.size + 1)) #[] #[]] }, W1, 37,
    #[.func (.yield (w.heap.size + 1)) #[] #[]] ++ #[.pointer (some ⟨p1, 0, none⟩), .pointer (some ⟨p2, 0, none⟩)], W1, ?_, ?_, ?_, ?_, fun _ => by omega, ?_⟩
  · rw [← hW1, hrec]; exact run_enterLoop_outer _ _ _ _ _
  · simp only [resolve, hg]
    simp [go_sem]
  · intro f' hf'; exact trivial
  · simp [invoke, go_sem]
  · have nl : ∀ (X : List Nat → Option Nat → World → Prop), Abd w.heap.size f b1 b2 bs p1 p2 ar l X → ∀ (pre : List Nat) (ρ : Option Nat) (W : World) (q : Loop), X pre ρ W → W.heap[w.heap.size + 1]? = some (.loop q) → ρ ≠ some (w.heap.size + 1) := fun X hX pre ρ W q hi hl e => by
      obtain ⟨⟨cs, t, fr, h⟩, _⟩ := hX.row pre ρ W _ hi e
      rw [hl] at h; cases h
    have nd : ∀ (pre : List Nat) (ρ : Option Nat) (W : World), I pre ρ W → W.heap[w.heap.size]? = some (.deferred (some [])) → ρ ≠ some w.heap.size := fun pre ρ W hi hl e => by
      obtain ⟨⟨cs, t, fr, h⟩, _⟩ := hA.row pre ρ W _ hi e
      rw [hl] at h; cases h
    have ibl : ∀ j, Ib f b1 b2 bs p1 p2 ar l j → j < w.heap.size := fun j hj => by
      obtain ⟨h1, h2, h3, h4, h5, h6, h7, _⟩ := hlt
      rcases hj with rfl | rfl | rfl | rfl | rfl | rfl | hj
      · exact h1
      · exact h2
      · exact h3
      · exact h4
      · exact h5
      · exact h6
      · exact h7 j hj
    have hbsl : bs < w.heap.size := hlt.2.2.2.1
    have hrl : r < w.heap.size := hlt.2.2.2.2.2.2.2
    have hput : ∀ (X : List Nat → Option Nat → World → Prop), Abd w.heap.size f b1 b2 bs p1 p2 ar l X → ∀ (pre : List Nat) (ρ : Option Nat) (W : World) (q : Loop) (o : Obj), X pre ρ W → W.heap[w.heap.size + 1]? = some (.loop q) → X pre ρ (W.putObj (w.heap.size + 1) o) := fun X hX pre ρ W q o hi hl =>
      hX.on _ _ _ _ (w.heap.size + 1) hi (by omega) (nl X hX _ _ _ _ hi hl) ((fr_put W _ o).imp (fun _ h => .inr h))
    refine (around1_in gf hc ⟨by omega, by omega, hp.1, hp.2⟩ (w.heap.size + 1) (n - 1) (by omega) (fun j => j = r ∨ j = w.heap.size + 1) ?_
      (fun pre ρ W => I pre ρ W ∧ W.heap[w.heap.size + 1]? = some (.loop (rec .ready none)) ∧ W.heap[w.heap.size]? = some (.deferred (some [])))
      (fun pre W => ∃ cd ρ, I2 pre ρ W ∧ Cx cd pre ∧ W.heap[w.heap.size + 1]? = some (.loop (rec .done (some cd))) ∧ W.heap[w.heap.size]? = some (.deferred (some [])))
      ?_ ?_ ?_ W1 ρ0 (gr.fr gf hF1 (fun _ _ h => h)) (by omega) (cell_fr hc1 hF1 (fun h => h)) (cell_fr hc2 hF1 (fun h => h)) ⟨hI1, hL1, hK1⟩).mono ?_
    · rintro j (rfl | rfl)
      · exact ⟨by omega, hr⟩
      · exact ⟨by omega, fun h => by have := ibl _ h; omega⟩
    · rintro pre ρ W W' g0 ⟨hi, hl, hk⟩ hg0 hne hf
      exact ⟨hA.on _ _ _ _ g0 hi (by omega) hne hf, (hf.block _ (lt_of_block hl) (fun e => by omega)).trans hl, (hf.block _ (lt_of_block hk) (fun e => by omega)).trans hk⟩
    · rintro pre ρ W b ⟨hi, hl, hk⟩ e
      exact ⟨hne0 _ _ _ _ hi e, (hA.row _ _ _ _ hi e).2⟩
    · rintro pre ρ x W ⟨hi, hl, hk⟩ hpre
      have hlW : w.heap.size + 1 < W.heap.size := lt_of_block hl
      have hy := run_yield (P := Try.prog) (args := #[.int .i64 (x : Int)]) hl (by rw [hrec]; rfl)
      rw [hrec] at hy
      refine ⟨fn, _, assign, body, hy, roundIn_of_wpIn hfn (hassign _ x W _ ⟨_, run_beginRound hl (by rw [hrec]), ?_⟩)⟩
      obtain ⟨W2, hW2⟩ : ∃ W2, W.putObj (w.heap.size + 1) (.loop { rec .ready none with state := .busy }) = W2 := ⟨_, rfl⟩
      have hl2 : W2.heap[w.heap.size + 1]? = some (.loop { rec .ready none with state := .busy }) := by rw [← hW2]; exact World.putObj_heap_same hlW
      have hk2 : W2.heap[w.heap.size]? = some (.deferred (some [])) := by rw [← hW2]; exact (World.putObj_heap_other (by omega)).trans hk
      have hf2 : Fr (fun j => j = w.heap.size + 1) W W2 := by rw [← hW2]; exact fr_put _ _ _
      have hz2 : W2.heap.size = W.heap.size := by rw [← hW2]; simp
      have hi2 : I pre ρ W2 := by rw [← hW2]; exact hput I hA _ _ _ _ _ hi hl
      rw [hW2]
      refine wpIn_mono (hbody _ pre ρ x W2 hi2 hpre) ?_
      have fin : ∀ (X : List Nat → Option Nat → World → Prop), Abd w.heap.size f b1 b2 bs p1 p2 ar l X → ∀ (jump : Option Code) (W3 : World) (ρ' : Option Nat), X (pre ++ [x]) ρ' W3 → Fr (fun j => j = r ∨ some j = ρ) W2 W3 →
          ∃ W4, (Instr.endRound (w.heap.size + 1) jump).run Try.prog W3 = .ok (.bool jump.isNone) W4 ∧ X (pre ++ [x]) ρ' W4 ∧ W4.heap[w.heap.size + 1]? = some (.loop (rec (if jump.isNone then .ready else .done) jump)) ∧
            W4.heap[w.heap.size]? = some (.deferred (some [])) ∧ Fr (fun j => (j = r ∨ j = w.heap.size + 1) ∨ some j = ρ) W W4 := fun X hX jump W3 ρ' hi3 hf3 => by
        have hl3 := (hf3.block _ (lt_of_block hl2) (fun e => e.elim (fun e => by omega) (fun e => nl I hA _ _ _ _ hi2 hl2 e.symm))).trans hl2
        have hk3 := (hf3.block _ (lt_of_block hk2) (fun e => e.elim (fun e => by omega) (fun e => nd _ _ _ hi2 hk2 e.symm))).trans hk2
        have hr3 := run_endRound (P := Try.prog) jump hl3
        refine ⟨_, hr3, hput X hX _ _ _ _ _ hi3 hl3, ?_, (World.putObj_heap_other (by omega)).trans hk3, ?_⟩
        · rw [World.putObj_heap_same (lt_of_block hl3), hrec]
        · exact ((hf2.imp (fun _ h => .inl (.inr h))).trans (hf3.imp (fun _ h => h.elim (fun h => .inl (.inl h)) .inr))).trans ((fr_put _ _ _).imp (fun _ h => .inl (.inr h)))
      rintro e a3 W3 hpost
      cases e with
      | normal =>
        obtain ⟨ρ', hi3, hf3, hr3⟩ := hpost
        obtain ⟨W4, hr4, hi4, hl4, hk4, hf4⟩ := fin I hA none W3 ρ' hi3 hf3
        exact ⟨_, W4, hr4, .inl ⟨rfl, ρ', ⟨hi4, hl4, hk4⟩, hf4, hr3.imp id (fun ⟨b, h1, h2⟩ => ⟨b, h1, by omega⟩)⟩⟩
      | exit id =>
        obtain ⟨ρ', hi3, hf3, hr3, hcx⟩ := hpost
        obtain ⟨W4, hr4, hi4, hl4, hk4, hf4⟩ := fin I2 hA2 (some (.exit id)) W3 ρ' hi3 hf3
        exact ⟨_, W4, hr4, .inr ⟨rfl, .exit id, ρ', hi4, hcx, hl4, hk4⟩⟩
      | ret => exact hpost.elim
      | goto t => exact hpost.elim
      | panic ch => exact hpost.elim
      | outgrown => exact hpost.elim
    · rintro e W2 ⟨⟨v, rfl⟩, (⟨ρ, ⟨hi, hl, hk⟩, hT⟩ | ⟨pre, hpre, cd, ρ, hi, hcx, hl, hk⟩)⟩
      · refine ⟨none, _, by have := run_endLoop (P := Try.prog) hl (by rw [hrec]; simp); rw [hrec] at this; exact this, hdone ρ _ (hput I hA _ _ _ _ _ hi hl) ?_ ((World.putObj_heap_other (by omega)).trans hk)⟩
        exact hT.frI (p1 := p1) (p2 := p2) (fr_put _ _ _) (fun j hj e => by have := ibl j hj; omega)
      · exact ⟨some cd, _, by have := run_endLoop (P := Try.prog) hl (by rw [hrec]; simp); rw [hrec] at this; exact this, hstop cd pre ρ _ hpre hcx (hput I2 hA2 _ _ _ _ _ hi hl) ((World.putObj_heap_other (by omega)).trans hk)⟩
end Go.Proofs.Ytpgadcacimjlaaa
