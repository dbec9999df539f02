/-
  SameBools; SpoilInts, which leaves every row a row; a list of truths that is appended to an empty one. Contract of graph.Induced.
-/
import Derived.Test.YtomlmphdnoempaaPart
import Derived.Deep.RegionHeld3
import Derived.Test.YtomlmphdnoempaaKept
import Derived.Test.YtomlmphdnoempaaMarks
namespace Go.Proofs.Ytomlmphdnoempaa
open Go.RowKit
theorem own_keep {w w' : World} {base : Nat} {e : TypeId} {size : Nat} {v : Value} {n : Nat} {xs : List Value} (h : w.ownsRow base e size v n xs) (hk : ∀ k, base ≤ k → k < w.heap.size → v.ownBlock = some k → w'.heap[k]? = w.heap[k]?) : w'.ownsRow base e size v n xs := by
  refine ⟨h.1, ?_⟩
  rcases h.2 with h' | ⟨g, c, cur, h1, h2, h3, h4⟩
  · exact Or.inl h'
  · refine Or.inr ⟨g, c, cur, h1, h2, ?_, h4⟩
    rw [hk g h2 (lt_of_block h3) (by rw [h1]; rfl)]
    exact h3
/-- A list of numbers that a call made. -/
def OwnI (w : World) (B : Nat) (a : Option Addr) (c : Nat) (xs : List Int) : Prop := w.ownsRow B 3 1 (.slice a xs.length c) xs.length (cellsI xs)
theorem OwnI.ints {w : World} {B : Nat} {a : Option Addr} {c : Nat} {xs : List Int} (h : OwnI w B a c xs) : Ints w a xs := ints_own h
end Go.Proofs.Ytomlmphdnoempaa
namespace Go.Proofs.Ytomlmphdnoempaa
open Go.RowKit
set_option maxHeartbeats 400000 in
theorem sameBools_any (a a' : Option Addr) (cap cap' : Nat) (q : List Bool) (w : World) (hlen : q.length ≤ 9223372036854775807) (hr : Bools (· < w.heap.size) w a q) (hr' : Bools (· < w.heap.size) w a' q) :
    Calls Try.prog 23 #[.slice a q.length cap, .slice a' q.length cap'] w fun e w' => e = .returned (.bool true) ∧ Below w.heap.size w w' := by
  obtain ⟨b, o, hab⟩ := hr.get
  obtain ⟨b', o', hab'⟩ := hr'.get
  go_enter Try.func23, Try.ntmps23
  go_wp2_with fail
  go_loopw [5] (fun i wr => ∃ k n : Nat, k ≤ q.length ∧ i = .int .i64 k ∧ wr = w.drewN n) (fun i _ => q.length - (intOf i).toNat)
  case atStart => exact ⟨0, 0, Nat.zero_le _, rfl, rfl⟩
  case round =>
    obtain ⟨k, n, hk, rfl, rfl⟩ := hrel
    by_cases hlt : k < q.length
    · obtain ⟨rfl, _, hc⟩ := hab (by omega)
      obtain ⟨rfl, _, hc'⟩ := hab' (by omega)
      have c1 := hc k hlt
      have c2 := hc' k hlt
      clear hc hc'
      generalize q.getD k false = x at *
      go_wp2_with fail
      go_quiet (fail)
      go_wp2_with fail
      exact ⟨⟨k + 1, _, by omega, by go_num, rfl⟩, by simp [intOf]; omega⟩
    · go_wp2_with fail
      go_ret
      exact ⟨rfl, below_drewN _ _ _⟩
theorem own_shape_set {w : World} {base : Nat} {e : TypeId} {size : Nat} {v : Value} {n : Nat} {xs : List Value} (h : w.ownsRow base e size v n xs) (g i : Nat) (u : Value) : ∃ ys, (w.setCell ⟨g, i, none⟩ u).ownsRow base e size v n ys := by
  rcases h.2 with ⟨rfl, rfl⟩ | ⟨g', c, cur, rfl, h2, h3, h4, h5, h6, h7⟩
  · exact ⟨[], World.ownsRow_nil _ _ _ _⟩
  · by_cases hg : g' = g
    · subst hg
      refine ⟨((cur.setIfInBounds i u).toList.take (n * size)), ?_, Or.inr ⟨g', c, cur.setIfInBounds i u, rfl, h2, heap_setCell_same w g' i cur e u h3, h4, h5, by simpa using h6, rfl⟩⟩
      have := h.1
      rw [List.length_take, Array.length_toList, Array.size_setIfInBounds, h6]
      have : n * size ≤ c * size := Nat.mul_le_mul_right _ h4
      omega
    · exact ⟨xs, h.1, Or.inr ⟨g', c, cur, rfl, h2, (heap_setCell_other w _ g' _ hg).trans h3, h4, h5, h6, h7⟩⟩
/-- Rows stay rows. -/
def Rowed (w w' : World) : Prop := ∀ (base : Nat) (e : TypeId) (size : Nat) (v : Value) (n : Nat) (xs : List Value), w.ownsRow base e size v n xs → ∃ ys, w'.ownsRow base e size v n ys
set_option maxHeartbeats 400000 in
theorem spoilInts_row (g n m B : Nat) (x : Int) (xs : List Value) (w : World) (hn : n ≤ 9223372036854775807) (hown : w.ownsRow B 3 1 (.slice (some ⟨g, 0, none⟩) n n) n xs) :
    Calls Try.prog 26 #[.slice (some ⟨g, 0, none⟩) m n, .int .i64 x] w fun e w' => e = .returned (.tuple #[]) ∧ Below B w w' ∧ Rowed w w' := by
  have hgB : B ≤ g := (hown.lt g rfl).1
  go_enter Try.func26, Try.ntmps26
  go_wp2_with fail
  go_loopw [4] (fun i wr => ∃ (k : Nat) (xs : List Value), k ≤ n ∧ i = .int .i64 k ∧ wr.ownsRow B 3 1 (.slice (some ⟨g, 0, none⟩) n n) n xs ∧ Below B w wr ∧ Rowed w wr) (fun i _ => n - (intOf i).toNat)
  case atStart => exact ⟨0, xs, Nat.zero_le _, rfl, hown, Below.refl _ _, fun _ _ _ _ _ xs h => ⟨xs, h⟩⟩
  case round =>
    obtain ⟨k, ys, hk, rfl, ho, hbel, hrow⟩ := hrel
    have HR := Lib.hid hrow
    clear hrow
    by_cases hlt : k < n
    · have hyl : k < ys.length := by have := ho.1; omega
      have c2 : wr.cell? ⟨g, k, none⟩ = some ys[k] := (ho.cellAt k (by omega)).trans (List.getElem?_eq_getElem hyl)
      have f2 : wr.frozen? ⟨g, k, none⟩ = false := ho.frozenAt k
      generalize ys[k] = y at c2
      have HS := Lib.hid (ho.stored k (.int .i64 x))
      go_wp2_with fail
      exact ⟨⟨k + 1, _, by omega, by go_num, HS.out.1, hbel.setCell hgB _, fun base e size v n xs h => by obtain ⟨zs, hz⟩ := HR.out base e size v n xs h; exact own_shape_set hz g k _⟩, by simp [intOf]; omega⟩
    · go_wp2_with fail
      go_end0
      exact ⟨rfl, hbel, HR.out⟩
theorem spoilInts_gen (a : Option Addr) (n c B : Nat) (x : Int) (xs : List Value) (w : World) (hown : w.ownsRow B 3 1 (.slice a n c) n xs) :
    Calls Try.prog 26 #[.slice a n c, .int .i64 x] w fun e w' => e = .returned (.tuple #[]) ∧ Below B w w' ∧ Rowed w w' := by
  rcases hown.2 with ⟨h', h0⟩ | ⟨g, c', cur, h', hb, hg, hnc, hm, _⟩
  · injection h' with e1 e2 e3
    subst e1 e3
    rw [h0]
    refine (spoilInts_none x w).mono ?_
    rintro e w' ⟨rfl, rfl⟩
    exact ⟨rfl, Below.refl _ _, fun _ _ _ _ _ xs h => ⟨xs, h⟩⟩
  · injection h' with e1 e2 e3
    subst e1 e3
    obtain ⟨ys, hy⟩ := own_wide hown
    exact spoilInts_row g c n B x ys w (by unfold maxLen at hm; omega) hy
theorem info4 : (Try.prog.info? 4).map (fun i => (i.zero, i.size, i.bytes)) = some (some (.bool false), 1, 1) := by kernel_rfl
def cellsBs (l : List Bool) : List Value := l.map Value.bool
theorem bools_news {w : World} {ad : Addr} {q : List Bool} (h : Bools (· < w.heap.size) w (some ad) q) : ∀ j u, (cellsBs q)[j]? = some u → w.cell? (ad.add j) = some u := by
  intro j u hu
  rcases h with rfl | ⟨b, o, hab, _, hc⟩
  · simp [cellsBs] at hu
  · cases hab
    unfold cellsBs at hu
    rw [List.getElem?_map] at hu
    have hj : j < q.length := by
      rcases Nat.lt_or_ge j q.length with h' | h'
      · exact h'
      · rw [List.getElem?_eq_none h'] at hu; cases hu
    rw [List.getElem?_eq_getElem hj] at hu
    have e := hc j hj
    rw [Go.WideShapes.add_plain, e]
    simp [List.getD, hj]
    simpa using hu
theorem bools_own {w : World} {B : Nat} {a : Option Addr} {c : Nat} {q : List Bool} (h : w.ownsRow B 4 1 (.slice a q.length c) q.length (cellsBs q)) : Bools (· < w.heap.size) w a q := by
  by_cases h0 : q = []
  · exact Or.inl h0
  · rcases h.2 with ⟨_, h'⟩ | ⟨g, c', cur, h', _, hg, _⟩
    · exact absurd (List.eq_nil_of_length_eq_zero h') h0
    · injection h' with e1 e2 e3
      subst e1
      refine Or.inr ⟨g, 0, rfl, lt_of_block hg, fun j hj => ?_⟩
      have h2 := h.cells (g := g) rfl j (.bool (q.getD j false)) (by unfold cellsBs; simp [List.getD, hj])
      rw [Go.WideShapes.add_plain] at h2
      exact h2
/-- append of a list of truths that came in to an empty one that is new. -/
theorem wpList_bools {w : World} {ops : Array Oper} {rest : List Oper} {o : Oper} {a : Act} {Q : Exit → Act → World → Prop} (hgd : o.guard = none) (s x : Operand)
    (ho : o.op = .call { callee := .builtin .append, args := #[s, x], argTypes := #[40, 40] }) (base g : Nat) (hs : a.eval s = .slice (some ⟨g, 0, none⟩) 0 0) (hown : w.ownsRow base 4 1 (.slice (some ⟨g, 0, none⟩) 0 0) 0 [])
    (a' : Option Addr) (q : List Bool) (cap : Nat) (hx : a.eval x = .slice a' q.length cap) (hn : a' = none → q = [] ∧ cap = 0) (hc : Bools (· < w.heap.size) w a' q) (hb : q.length ≤ 140737488355328) (hbase : base ≤ w.heap.size)
    (h : ∀ g' c' w', w'.ownsRow base 4 1 (.slice (some ⟨g', 0, none⟩) q.length c') q.length (cellsBs q) → Below base w w' → wpList Try.prog ops Q rest (a.put o.dst (.slice (some ⟨g', 0, none⟩) q.length c')) w') : wpList Try.prog ops Q (o :: rest) a w := by
  obtain ⟨i0, hi, hz0, hz1, hz2⟩ := info_parts info4
  refine wpList_plain hgd fun K hK => ?_
  match a', hn, hx, hc with
  | none, hn, hx, _ =>
    obtain ⟨e1, e2⟩ := hn rfl
    subst e1 e2
    have hrun := run_append_owned_none (P := Try.prog) (w := w) base 40 o.type 4 i0 1 Try.underlying40 hi _ 0 [] hown
    have hx' : a.eval x = .slice none 0 0 := hx
    unfold Oper.wp
    simp [execOp, ho, resolve, invoke, builtin, hs, hx', hrun, Result.andThen]
    exact hK _ _ (h g 0 w hown (Below.refl _ _))
  | some ad, _, hx, hc =>
    refine wp_append_own _ s x 40 ho base 4 i0 _ 1 1 Try.underlying40 hi hz0 hz1 hz2 rfl (by decide) _ 0 [] hs hown ad q.length cap (cellsBs q) hx (by simp [cellsBs]) (bools_news hc) (by intro u hu; unfold cellsBs at hu; obtain ⟨b, _, rfl⟩ := List.mem_map.1 hu; rfl) (by unfold maxLen; omega) (by omega) hbase ?_
    intro v' w' ho' hg' hn'
    obtain ⟨g', c', rfl, hg'', _, _, _⟩ := own_shape ho' (fun e => by have := (hn'.1 e).1; cases this)
    simp only [Nat.zero_add, List.nil_append] at ho' ⊢
    exact hK _ _ (h g' c' w' ho' ((Below.refl base w).grown hg' hbase (by intro k hk; exact (hown.lt k hk).1)))
end Go.Proofs.Ytomlmphdnoempaa
