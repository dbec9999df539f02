/-
  The contract of flow.Max.
-/
import Derived.Test.YtpgadcacimjlaabFLay1
import Derived.Test.YtpgadcacimjlaabFChk2
import Derived.Test.YtpgadcacimjlaabFEndM
namespace Go.Proofs.Ytpgadcacimjlaab.F6
open Go.RowKit
theorem info50 : (Try.prog.info? 38).map (fun i => (i.zero, i.size, i.bytes)) = some (some (.int .u32 0), 1, 4) := by kernel_rfl
theorem made_u32 (n : Nat) : madeCells (Value.int .u32 0).cells (n * 1) = ((List.range n).map (fun _ => Value.int .u32 0)).toArray := by
  apply Array.ext'
  show (madeCells #[Value.int .u32 0] (n * 1)).toList = _
  rw [toList_madeCells_one, Nat.mul_one]
  apply List.ext_getElem
  · simp
  · intro i h1 h2
    simp
theorem net_zero (E : List Ed) (v : Nat) : ∀ k, net E (fun _ => 0) v k = 0
  | 0 => rfl
  | k + 1 => by simp [net, net_zero E v k]
theorem Flow.zero {n : Nat} {E : List Ed} (g : RN n E) (s t : Nat) : Flow n E s t (fun _ => 0) :=
  ⟨fun _ _ => Int.le_refl _, fun j hj => (g.cap j hj).1, fun v _ _ _ => net_zero E v _⟩
theorem RN.steps {n : Nat} {E : List Ed} (g : RN n E) : ∀ k, k < 2 * E.length → frm E k < n ∧ tto E k < n := fun k hk => by
  have h := g.ends (k / 2) (by omega)
  unfold frm tto
  split
  · exact h
  · exact ⟨h.2, h.1⟩
/-- What is right of a network and two nodes that are not refused. -/
structure Ok (N : Int) (l : List A) (s t : Int) (n u v : Nat) : Prop where
  hn : N = n
  hs : s = u
  ht : t = v
  g : RN n (edl l)
  po : ∀ x, x ∈ l → 0 ≤ x.f ∧ 0 ≤ x.t
  un : u < n
  vn : v < n
  uv : u ≠ v
theorem flE_ok {N : Int} {l : List A} {s t : Int} (h : flE N l s t = 0) (hw : ∀ x, x ∈ l → 0 ≤ x.w ∧ x.w < 4294967296) : ∃ n u v, Ok N l s t n u v := by
  unfold flE at h
  by_cases h1 : chkE N l = 0
  · rw [if_pos h1] at h
    by_cases h2 : okV N s = true
    · rw [if_pos h2] at h
      by_cases h3 : okV N t = true
      · rw [if_pos h3] at h
        by_cases h4 : s = t
        · rw [if_pos h4] at h; cases h
        · obtain ⟨c1, c2, c3, c4⟩ := chk_zero h1
          have h2 := okV_t h2
          have h3 := okV_t h3
          refine ⟨N.toNat, s.toNat, t.toNat, by omega, by omega, by omega, ⟨by omega, by omega, by rw [edl_len]; omega, fun j hj => ?_, fun j hj => ?_⟩, fun x hx => ⟨(c4 x hx).1.1, (c4 x hx).2.1⟩, by omega, by omega, by omega⟩
          · rw [edl_len] at hj
            rw [edl_at hj]
            have := c4 (l.getD j A.zero) (by simp [List.getD, List.getElem?_eq_getElem hj])
            simp only
            omega
          · rw [edl_len] at hj
            rw [edl_at hj]
            exact hw (l.getD j A.zero) (by simp [List.getD, List.getElem?_eq_getElem hj])
      · rw [if_neg h3] at h; cases h
    · rw [if_neg h2] at h; cases h
  · rw [if_neg h1] at h; exact absurd h h1
theorem lv6 (E : List Ed) (fl nx : Nat → Int) (k : Nat) : lv E fl nx (k * 6 + 0) = .int .i64 (ed E k).f ∧ lv E fl nx (k * 6 + 1) = .int .i64 (ed E k).t ∧ lv E fl nx (k * 6 + 2) = .int .u32 ((ed E k).c - fl k) ∧ lv E fl nx (k * 6 + 3) = .int .u32 (fl k) ∧ lv E fl nx (k * 6 + 4) = .int .i64 (nx (2 * k)) ∧ lv E fl nx (k * 6 + 5) = .int .i64 (nx (2 * k + 1)) := by
  have h : ∀ j, j < 6 → (k * 6 + j) % 6 = j ∧ (k * 6 + j) / 6 = k := fun j hj => by omega
  unfold lv
  rw [(h 0 (by decide)).1, (h 0 (by decide)).2, (h 1 (by decide)).1, (h 1 (by decide)).2, (h 2 (by decide)).1, (h 2 (by decide)).2, (h 3 (by decide)).1, (h 3 (by decide)).2, (h 4 (by decide)).1, (h 4 (by decide)).2, (h 5 (by decide)).1, (h 5 (by decide)).2]
  simp
/-- The six cells of a line. -/
theorem line_cells {w : World} {bl m : Nat} {E : List Ed} {fl nx : Nat → Int} (h : TbV w bl (m * 6) 118 (lv E fl nx)) {k : Nat} (hk : k < m) : ∃ y0 y1 y2 y4 y5, w.cell? ⟨bl, k * 6, none⟩ = some (.int .i64 y0) ∧ w.cell? ⟨bl, k * 6 + 1, none⟩ = some (.int .i64 y1) ∧ w.cell? ⟨bl, k * 6 + 2, none⟩ = some (.int .u32 y2) ∧ w.cell? ⟨bl, k * 6 + 3, none⟩ = some (.int .u32 (fl k)) ∧ w.cell? ⟨bl, k * 6 + 4, none⟩ = some (.int .i64 y4) ∧ w.cell? ⟨bl, k * 6 + 5, none⟩ = some (.int .i64 y5) := by
  obtain ⟨l0, l1, l2, l3, l4, l5⟩ := lv6 E fl nx k
  have c := fun j (hj : j < 6) => h.cell (v := k * 6 + j) (lay_in hk hj)
  exact ⟨_, _, _, _, _, (c 0 (by decide)).trans (congrArg some l0), (c 1 (by decide)).trans (congrArg some l1), (c 2 (by decide)).trans (congrArg some l2), (c 3 (by decide)).trans (congrArg some l3), (c 4 (by decide)).trans (congrArg some l4), (c 5 (by decide)).trans (congrArg some l5)⟩
theorem tab_step {fl : Nat → Int} {k : Nat} (j : Nat) : updV (fun j => if j < k then Value.int .u32 (fl j) else .int .u32 0) k (.int .u32 (fl k)) j = if j < k + 1 then .int .u32 (fl j) else .int .u32 0 := by
  by_cases e : j = k
  · subst e; rw [updV_self, if_pos (Nat.lt_succ_self _)]
  · rw [updV_ne _ _ e]
    show (if j < k then Value.int .u32 (fl j) else .int .u32 0) = _
    by_cases h : j < k
    · rw [if_pos h, if_pos (by omega)]
    · rw [if_neg h, if_neg (by omega)]
theorem Fr.below {D : Nat → Prop} {w w' : World} (h : Fr D w w') {B : Nat} (hB : B ≤ w.heap.size) (hd : ∀ k, D k → B ≤ k) : Below B w w' :=
  ⟨h.os, h.tape, h.output, h.size, fun k hk => h.block k (Nat.lt_of_lt_of_le hk hB) (fun e => absurd (hd k e) (Nat.not_le.2 hk))⟩
end Go.Proofs.Ytpgadcacimjlaab.F6
