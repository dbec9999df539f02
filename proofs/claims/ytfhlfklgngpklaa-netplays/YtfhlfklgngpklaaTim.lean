/-
  Timers: what changes when their row changes; what Set tells Search; sorted timers.
-/
import Derived.Test.YtfhlfklgngpklaaSea
import Derived.Test.YtfhlfklgngpklaaInsG
namespace Go.Proofs.Ytfhlfklgngpklaa
open Go.RowKit Go.Maps
theorem tm_cells : ∀ (l : List Tm) (i : Nat) (h : i < l.length), (tmC l)[i * 3]? = some (.int .i64 (l[i]).nd) ∧ (tmC l)[i * 3 + 1]? = some (.int .i64 (l[i]).at_) ∧ (tmC l)[i * 3 + 2]? = some (.int .i64 (l[i]).tg)
  | t :: r, 0, _ => ⟨rfl, rfl, rfl⟩
  | t :: r, i + 1, h => by
    have := tm_cells r i (by simpa using h)
    rw [show (i + 1) * 3 = i * 3 + 1 + 1 + 1 by omega]
    exact this
theorem tm_at {w : World} {v : Value} {l : List Tm} (h : w.ownsRow 0 53 3 v l.length (tmC l)) (i : Nat) (hi : i < l.length) : ∃ g c, v = .slice (some ⟨g, 0, none⟩) l.length c ∧ l.length ≤ c ∧ c ≤ maxLen ∧ g < w.heap.size ∧
    w.cell? ⟨g, i * 3, none⟩ = some (.int .i64 (l[i]).nd) ∧ w.cell? ⟨g, i * 3 + 1, none⟩ = some (.int .i64 (l[i]).at_) ∧ w.cell? ⟨g, i * 3 + 2, none⟩ = some (.int .i64 (l[i]).tg) := by
  rcases tm_form h with ⟨_, h0⟩ | ⟨g, c, cur, e, h1, h2, h3, h4, h5⟩
  · omega
  · obtain ⟨q0, q1, q2⟩ := tm_cells l i hi
    have hl := tmC_len l
    refine ⟨g, c, e, h1, h2, lt_of_block h3, ?_, ?_, ?_⟩
    · rw [cell_of_row w g _ cur 53 (0, 0) h3, ← Array.getElem?_toList, h5, List.getElem?_append_left (by omega)]
      exact q0
    · rw [cell_of_row w g _ cur 53 (0, 0) h3, ← Array.getElem?_toList, h5, List.getElem?_append_left (by omega)]
      exact q1
    · rw [cell_of_row w g _ cur 53 (0, 0) h3, ← Array.getElem?_toList, h5, List.getElem?_append_left (by omega)]
      exact q2
/-- Timers in their order. -/
def Rising (l : List Tm) : Prop := l.Pairwise (fun u v => ahT v u = false)
theorem ah_mono {t u v : Tm} (h : ahT v u = false) (k : ahT t u = true) : ahT t v = true := by
  unfold ahT at *
  split at h <;> split at k <;> split <;> simp_all <;> omega
theorem ah_trans {t u v : Tm} (h : ahT v u = false) (k : ahT u t = false) : ahT v t = false := by
  unfold ahT at *
  split at h <;> split at k <;> split <;> simp_all <;> omega
theorem ah_anti {t u : Tm} (h : ahT t u = true) : ahT u t = false := by
  unfold ahT at *
  split at h <;> split <;> simp_all <;> omega
/-- Where a timer goes. -/
def insT (t : Tm) (l : List Tm) : List Tm := l.takeWhile (fun u => !ahT t u) ++ t :: l.dropWhile (fun u => !ahT t u)
theorem insT_at (t : Tm) : ∀ (l : List Tm) (j : Nat), j ≤ l.length → (∀ i (h : i < l.length), i < j → ahT t l[i] = false) → (∀ i (h : i < l.length), j ≤ i → ahT t l[i] = true) → l.take j ++ t :: l.drop j = insT t l
  | [], j, _, _, _ => by simp [insT]
  | u :: r, 0, _, _, h2 => by
    have := h2 0 (by simp) (Nat.le_refl _)
    simp only [List.getElem_cons_zero] at this
    simp [insT, this]
  | u :: r, j + 1, hj, h1, h2 => by
    have h0 := h1 0 (by simp) (by omega)
    simp only [List.getElem_cons_zero] at h0
    have ih := insT_at t r j (by simpa using hj) (fun i h hi => h1 (i + 1) (by simpa using h) (by omega)) (fun i h hi => h2 (i + 1) (by simpa using h) (by omega))
    unfold insT at ih ⊢
    simp [h0, ih]
theorem insT_len (t : Tm) (l : List Tm) : (insT t l).length = l.length + 1 := by
  unfold insT
  have := congrArg List.length (List.takeWhile_append_dropWhile (p := fun u => !ahT t u) (l := l))
  rw [List.length_append] at this ⊢
  simp only [List.length_cons]
  omega
theorem insT_rising {t : Tm} : ∀ {l : List Tm}, Rising l → Rising (insT t l)
  | [], _ => by simp [insT, Rising]
  | u :: r, h => by
    obtain ⟨h1, h2⟩ := List.pairwise_cons.1 h
    cases hu : ahT t u with
    | true =>
      have e : insT t (u :: r) = t :: u :: r := by simp [insT, hu]
      rw [e]
      refine List.pairwise_cons.2 ⟨fun v hv => ?_, h⟩
      rcases List.mem_cons.1 hv with rfl | hv
      · exact ah_anti hu
      · exact ah_trans (h1 v hv) (ah_anti hu)
    | false =>
      have e : insT t (u :: r) = u :: insT t r := by simp [insT, hu]
      rw [e]
      refine List.pairwise_cons.2 ⟨fun v hv => ?_, insT_rising h2⟩
      unfold insT at hv
      rcases List.mem_append.1 hv with hv | hv
      · exact h1 v (List.takeWhile_subset _ hv)
      · rcases List.mem_cons.1 hv with rfl | hv
        · exact hu
        · exact h1 v (List.dropWhile_subset _ hv)
section
variable {w w' : World} {n : Nat} {P : Nat → Prop} {S : NS} {db mb : Nat} {tv : Value} {sv : Pr → Value} {D : DataW Unit} {k : Nat}
/-- Other timers, other time. -/
def NS.timed (S : NS) (l : List Tm) : NS := { S with tm := l }
theorem NTx.tvn (h : NTx w n P S db mb tv sv D k) : tv.ownBlock ≠ some n := fun e => by
  rcases h.ht.2 with ⟨e2, _⟩ | ⟨g, cap, cur, e2, h2, h3, h4⟩
  · rw [e2] at e; cases e
  · rw [e2] at e
    injection e with e
    have hn := h.hn
    rw [← e, h3] at hn
    injection hn with hn
    injection hn with _ hn _
    exact absurd hn (by decide)
theorem NTx.timed {w4 : World} (h : NTx w n P S db mb tv sv D k) {v' : Value} {l' : List Tm} (hz : w.heap.size ≤ w4.heap.size) (hb : ∀ j, P j → tv.ownBlock ≠ some j → w4.heap[j]? = w.heap[j]?)
    (hr : w4.ownsRow 0 53 3 v' l'.length (tmC l')) (hl : l'.length ≤ 16384) :
    NTx (w4.setCell ⟨n, 2, none⟩ v') n (fun j => P j ∨ v'.ownBlock = some j) (S.timed l') db mb v' sv D k := by
  have htv : ∀ j, tv.ownBlock = some j → ∃ cur, w.heap[j]? = some (.cells cur 53 (0, 0)) := fun j e => by
    rcases h.ht.2 with ⟨e2, _⟩ | ⟨g, cap, cur, e2, h2, h3, h4⟩
    · rw [e2] at e; cases e
    · rw [e2] at e
      injection e with e
      subst e
      exact ⟨cur, h3⟩
  have nt : ∀ {j cur t z}, w.heap[j]? = some (.cells cur t z) → t ≠ 53 → tv.ownBlock ≠ some j := fun hj ht e => by
    obtain ⟨cur, e⟩ := htv _ e
    rw [e] at hj
    injection hj with hj
    injection hj with _ hj _
    exact ht hj.symm
  have hn4 : w4.heap[n]? = _ := (hb n h.on (nt h.hn (by decide))).trans h.hn
  have hnm : mb ≠ n := fun e => by
    obtain ⟨es, clock, hb, r⟩ := h.hm
    rw [e, h.hn] at hb
    cases hb
  have hmt : tv.ownBlock ≠ some mb := fun e => by
    obtain ⟨cur, e⟩ := htv _ e
    obtain ⟨es, clock, hb, r⟩ := h.hm
    rw [e] at hb
    cases hb
  have hdn : db ≠ n := fun e => by
    have := h.hd
    rw [e, h.hn] at this
    injection this with this
    injection this with _ this _
    exact absurd this (by decide)
  have hset : ∀ j, j ≠ n → (w4.setCell ⟨n, 2, none⟩ v').heap[j]? = w4.heap[j]? := fun j hj => Below.heap_setCell _ _ _ _ hj
  have hvn : ∀ j, v'.ownBlock = some j → j ≠ n := fun j e e' => by
    rcases hr.2 with ⟨e2, _⟩ | ⟨g, cap, cur, e2, h2, h3, h4⟩
    · rw [e2] at e; cases e
    · rw [e2] at e
      injection e with e
      have e3 : g = j := e
      rw [e3, e', hn4] at h3
      injection h3 with h3
      injection h3 with _ h3 _
      exact absurd h3 (by decide)
  refine ⟨?_, (hset db hdn).trans ((hb db h.od (nt h.hd (by decide))).trans h.hd), h.hl, h.hN, ownsMap_same h.hm ((hset mb hnm).trans (hb mb h.om hmt)), ownsRow_same hr (fun g hg => hset g (hvn g hg)), ?_, h.rd, h.has, h.key, h.ap, h.short, hl, h.now0, Or.inl h.on, Or.inl h.od, Or.inl h.om, fun b e => Or.inr e, fun p b hp e => Or.inl (h.os p b hp e), ?_⟩
  · rw [setCell_eq_setRow w4 n 2 _ 59 (0, 0) _ hn4, setRow_heap w4 n _ _ 59 (0, 0) hn4]
    rfl
  · intro p hp
    refine ownsRow_same (h.row p hp) (fun g hg => ?_)
    have hg2 : ∃ cur, w.heap[g]? = some (.cells cur 9 (0, 0)) := by
      rcases (h.row p hp).2 with ⟨e2, _⟩ | ⟨g', cap, cur, e2, h2, h3, h4⟩
      · rw [e2] at hg; cases hg
      · rw [e2] at hg
        injection hg with hg
        subst hg
        exact ⟨cur, h3⟩
    obtain ⟨cur, h3⟩ := hg2
    have hgn : g ≠ n := fun e => by
      rw [e, h.hn] at h3
      injection h3 with h3
      injection h3 with _ h3 _
      exact absurd h3 (by decide)
    exact (hset g hgn).trans (hb g (h.os p g hp hg) (nt h3 (by decide)))
  · intro b hb'
    have hs : (w4.setCell ⟨n, 2, none⟩ v').heap.size = w4.heap.size := by simp
    rw [hs]
    rcases hb' with hb' | hb'
    · exact Nat.lt_of_lt_of_le (h.lt b hb') hz
    · exact (hr.lt b hb').2
/-- The same, behind a call that has turned the timers' row. -/
theorem NTx.timed_to {W w4 : World} (h : NTx W n P S db mb tv sv D k) {v' : Value} {l' : List Tm} (hk : Kept W w4 tv v' l') (hl : l'.length ≤ 16384) : To W (w4.setCell ⟨n, 2, none⟩ v') n P (S.timed l') := by
  obtain ⟨h1, h2, h3⟩ := hk
  have hv : ∀ j, v'.ownBlock = some j → tv.ownBlock = some j ∨ W.heap.size ≤ j := fun j e => by
    rcases h2 with h2 | h2
    · exact Or.inl (by rw [← h2]; exact e)
    · right
      rw [h2] at e
      injection e with e
      omega
  refine ⟨_, (h.timed h3.size (fun j hj hn => h3.block j (h.lt j hj) hn) h1 hl).nt, fun b e => ?_, ?_⟩
  · rcases e with e | e
    · exact Or.inl e
    · rcases hv b e with h' | h'
      · exact Or.inl (h.ot b h')
      · exact Or.inr h'
  · exact (h3.mono (fun j e => h.ot j e)).setCell _ _ (Or.inl h.on)
/-- What Search asks. -/
theorem setf_any (h : NTx w n P S db mb tv sv D k) (t : Tm) {tb nb : Nat} (ht : w.heap[tb]? = some (.cells (tmV t).toArray 53 (0, 0))) (hnb : w.cell? ⟨nb, 0, none⟩ = some (.pointer (some ⟨n, 0, none⟩))) (i : Nat) (hi : i < S.tm.length) :
    Calls Try.prog 53 #[.int .i64 (i : Int), .pointer (some ⟨tb, 0, none⟩), .pointer (some ⟨nb, 0, none⟩)] w fun e w' => e = .returned (.bool (ahT t S.tm[i])) ∧ Below w.heap.size w w' := by
  obtain ⟨g, c, e, h1, h2, h3, q0, q1, q2⟩ := tm_at h.ht i hi
  obtain ⟨⟨c0, c1, c2, c3⟩, -⟩ := cells4 h.hn
  rw [e] at c2
  obtain ⟨L, HL⟩ := named S.tm.length
  rw [HL.out] at c2 hi
  have y0 : w.cell? ⟨tb, 0, none⟩ = some (.int .i64 t.nd) := by rw [cell_of_row w tb 0 _ 53 (0, 0) ht]; rfl
  have y1 : w.cell? ⟨tb, 1, none⟩ = some (.int .i64 t.at_) := by rw [cell_of_row w tb 1 _ 53 (0, 0) ht]; rfl
  have y2 : w.cell? ⟨tb, 2, none⟩ = some (.int .i64 t.tg) := by rw [cell_of_row w tb 2 _ 53 (0, 0) ht]; rfl
  generalize S.tm[i] = u at *
  have HA := Lib.hid (fun W : World => ahead_any t u W)
  clear h ht c0 c1 c3 e h1 h2
  go_enter Try.func53, Try.ntmps53
  go_wp2_with fail
  go_region_law (rw [if_pos (by rfl)]; go_simp; go_at_call 54; refine (HA.out _).mono ?_; rintro e w3 ⟨rfl, rfl⟩)
  all_goals
    go_wp2_with fail
    go_ret
    exact ⟨rfl, (((Below.refl _ _).alloc (Nat.le_refl _) _).alloc (by simp) _).drew⟩
end
end Go.Proofs.Ytfhlfklgngpklaa
