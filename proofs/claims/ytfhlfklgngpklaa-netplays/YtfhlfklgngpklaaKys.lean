/-
  The links of a net's bags, as maps.Keys gives them.
-/
import Derived.Test.YtfhlfklgngpklaaBag
import Derived.Test.YtfhlfklgngpklaaCmp
import Derived.RangeFuncNested
import Derived.RangeFuncBound
import Derived.RangeFuncCalls
import Derived.RangeFuncLeaves
import Derived.Shelf.Abstract
import Derived.Shelf.RegionOpen
import Derived.OwnWalkIn
import Derived.TacticsInMore
import Derived.LoopNIn
import Derived.LoopIn
import Derived.RegionIn
import Derived.BigRegionIn
import Derived.Sort.MapsRangeIn
import Derived.Sort.KeysCollected
namespace Go.Proofs.Ytfhlfklgngpklaa
open Go.RowKit Go.Maps Go.Shelf Go.Sort
/-- What has come: each link once; those that are left have not come. -/
def Come (N : Nat) (D : DataW Unit) (left : Lit → Bool) (ss : List Pr) : Prop :=
  ss.Nodup ∧ ∀ p, p ∈ ss ↔ (In N p ∧ Maps.has D (kP p) = true ∧ left (kP p) = false)
theorem Come.start (N : Nat) (D : DataW Unit) : Come N D (Maps.has D) [] := ⟨List.nodup_nil, fun p => by
  constructor
  · intro h
    cases h
  · rintro ⟨_, h1, h2⟩
    rw [h1] at h2
    cases h2⟩
theorem Come.step {N : Nat} {D : DataW Unit} {left : Lit → Bool} {ss : List Pr} (h : Come N D left ss) (hN : N ≤ 65) {p : Pr} (hp : In N p) (hl : left (kP p) = true) (hd : Maps.has D (kP p) = true) : Come N D (fun z => left z && !z.sameKey (kP p)) (ss ++ [p]) := by
  have hn : p ∉ ss := fun e => by
    have := ((h.2 p).1 e).2.2
    rw [hl] at this
    cases this
  refine ⟨List.nodup_append.2 ⟨h.1, List.pairwise_singleton _ _, fun a ha b hb e => hn (by simp at hb; rw [← hb, ← e]; exact ha)⟩, fun q => ?_⟩
  rw [List.mem_append, List.mem_singleton, h.2 q]
  by_cases e : q = p
  · subst e
    simp only [or_true, true_iff]
    refine ⟨hp, hd, ?_⟩
    show (left (kP q) && !(kP q).sameKey (kP q)) = false
    rw [WideAt.sameKey_self (hp.lit hN)]
    simp
  · constructor
    · rintro (⟨h1, h2, h3⟩ | h1)
      · exact ⟨h1, h2, by show (left (kP q) && !(kP q).sameKey (kP p)) = false; rw [h3]; rfl⟩
      · exact absurd h1 e
    · rintro ⟨h1, h2, h3⟩
      have h3 : (left (kP q) && !(kP q).sameKey (kP p)) = false := h3
      refine Or.inl ⟨h1, h2, ?_⟩
      cases hs : (kP q).sameKey (kP p) with
      | true => exact absurd (h1.inj hp hN (WideAt.sameKey_eq hs)) e
      | false =>
        rw [hs] at h3
        simpa using h3
set_option maxRecDepth 100000 in
set_option maxHeartbeats 2000000 in
theorem keysP_in (n : Nat) (hn : 1 ≤ n) (l Bm b nn N : Nat) (hN : N ≤ 65) (D0 : DataW Unit) (hkey : ∀ kl, Maps.has D0 kl = true → ∃ p, In N p ∧ kl = kP p) (J Jx : List Pr → World → Prop)
    (hY : ∀ pre x W, J pre W → pre.length < Maps.size D0 → YieldAt Fence.wide (n - 1) Try.prog l #[pV x] W fun e W' =>
      (e = .returned (.bool true) ∧ J (pre ++ [x]) W' ∧ KeepsWalks W W') ∨ (e = .returned (.bool false) ∧ Jx (pre ++ [x]) W'))
    (W : World) (hJ : AbidesFrom W.heap.size J) (hm : W.cell? ⟨Bm, 0, none⟩ = some (.map (some b))) (hown : W.ownsMap Try.prog 64 slR b nn D0) (h0 : J [] W) :
    CallsIn Fence.wide n Try.prog 67 #[.func (.yield l) #[] #[], .pointer (some ⟨Bm, 0, none⟩)] W fun e W' => (∃ v, e = .returned v) ∧
      ((∃ ss : List Pr, (ss.Nodup ∧ ∀ p, p ∈ ss ↔ (In N p ∧ Maps.has D0 (kP p) = true)) ∧ J ss W') ∨ (∃ pre : List Pr, True ∧ Jx pre W')) := by
  refine callsIn_of_wp Try.func67 rfl trivial ?_ rfl
  simp only [Try.ntmps67, List.size_toArray, List.length_cons, List.length_nil, Nat.reduceAdd, Nat.reduceSub, Array.replicate_succ, Array.replicate_zero, List.push_toArray, List.append_toArray, List.nil_append, List.cons_append]
  gi_wp2_with (first
    | (gi_at_range; refine wpListIn_range_own _ rfl _ 57 rfl 64 43 lawP Try.underlying57 slR b nn _ rfl hown ?_; intro w0 hrg0 hg0 hs0)
    | gi_in)
  go_frame
  gi_loopw [3] (fun _ wr => ∃ (left : Lit → Bool) (cnt : Nat) (ss : List Pr), wr.ranges Try.prog 64 slR b W.heap.size nn D0 left cnt ∧ ss.length + cnt ≤ Maps.size D0 ∧ Come N D0 left ss ∧ J ss wr)
    (fun _ wr => wr.rangeLeft b W.heap.size)
  case atStart =>
    exact ⟨_, _, [], hrg0, by simp, Come.start N D0, hJ [] W w0 none h0 hg0 (fun r e => by cases e)⟩
  case round =>
    obtain ⟨left, cnt, ss, hrg, hcs, hC, hJs⟩ := hrel
    gi_wp2_with (first
      | (gi_at_next; refine wpListIn_next_ranges _ rfl _ rfl 64 lawP slR id id (fun key kl hk => ⟨key, rfl⟩) (fun v _ _ => ⟨v, rfl⟩) b W.heap.size nn _ _ _ rfl hrg ?_ ?_)
      | gi_in)
    · intro hc0 hl0
      gi_wp2
      go_end0
      exact ⟨⟨_, rfl⟩, .inl ⟨ss, ⟨hC.1, fun p => by rw [hC.2 p, hl0]; simp⟩, hJs⟩⟩
    · intro x c kl yd yp w2 cnt2 hkx hlk hv hat hrg2 hlt hg2 hs2 hen
      have hhas : Maps.has D0 kl = true := Maps.has_true_of_atKey hat
      obtain ⟨p, hp, rfl⟩ := hkey kl hhas
      have hx : x = pV p := lawP.inj hkx (hp.key hN)
      subst hx
      have hJ2 : J ss w2 := hJ ss wr w2 (some W.heap.size) hJs hg2 (fun r e => by cases e; exact ⟨Nat.le_refl _, hrg.iter_walk⟩)
      have hJ3 : J ss (w2.alloc (.cells #[.int .i64 p.a, .int .i64 p.b] 64)) := hJ ss w2 _ none hJ2 (World.grownBy_alloc w2 _ none) (fun r e => by cases e)
      obtain ⟨y0, y1⟩ := boxed w2 (.int .i64 p.a) (.int .i64 p.b)
      obtain ⟨fn, tmps, assign, body, hy, hR⟩ := hY ss p _ hJ3 (by omega)
      unfold pV at hy hen
      have hrg4 := hrg2.of_walks (KeepsWalks.alloc w2 (.cells #[.int .i64 p.a, .int .i64 p.b] 64))
      clear hs2
      have hC2 := hC.step hN hp hlk hhas
      gi_wp2
      refine hR.mono ?_
      rintro e W3 (⟨rfl, hJ5, hk3⟩ | ⟨rfl, hJx3⟩)
      · gi_wp2
        have hrg3 := hrg4.of_walks hk3
        go_roundw
        case rel => exact ⟨_, cnt2, ss ++ [p], hrg3, by simp; omega, hC2, hJ5⟩
        case measure => rw [hrg3.left_eq, hrg.left_eq]; exact hlt
      · gi_wp2
        refine bodyPost_ret (results_none rfl _ _ _) rfl ?_
        exact ⟨⟨_, rfl⟩, .inr ⟨ss ++ [p], trivial, hJx3⟩⟩
theorem keysP_stops (n : Nat) (hn : 1 ≤ n) (Bm b nn N : Nat) (hN : N ≤ 65) (D0 : DataW Unit) (hkey : ∀ kl, Maps.has D0 kl = true → ∃ p, In N p ∧ kl = kP p) (w : World) (hBm : Bm < w.heap.size)
    (hm : w.cell? ⟨Bm, 0, none⟩ = some (.map (some b))) (hown : w.ownsMap Try.prog 64 slR b nn D0) :
    SeqStopsK Fence.wide n Try.prog 67 #[.pointer (some ⟨Bm, 0, none⟩)] (fun x : Pr => #[pV x]) KeepsWalks (fun ss => ss.Nodup ∧ ∀ p, p ∈ ss ↔ (In N p ∧ Maps.has D0 (kP p) = true)) (fun _ => True) (Maps.size D0) w := fun l J Jx W hW hJ _ hY h0 =>
  keysP_in n hn l Bm b nn N hN D0 hkey J Jx hY W hJ ((hW.cell (p := ⟨Bm, 0, none⟩) hBm).trans hm) (ownsMap_same hown (hW.block b hown.lt)) h0
end Go.Proofs.Ytfhlfklgngpklaa
