/-
  Contract of the reference's Tidy. Leaders, and what labels tell. Lists of booleans.
-/
import Derived.Test.YtgpaoiddjlpcmaaZAH
import Derived.Test.YtgpaoiddjlpcmaaZBC
import Derived.BigRegion
namespace Go.Proofs.Ytgpaoiddjlpcmaa.T3
open Go.RowKit
/-- A leader leads himself, and follows none that is greater. -/
structure RT (R : Nat → Nat) : Prop where
  rle : ∀ v, R v ≤ v
  rr : ∀ v, R (R v) = R v
theorem RT.mg {R : Nat → Nat} (h : RT R) (a b : Nat) : RT (mg R a b) := by
  have ra := h.rr a
  have rb := h.rr b
  have hm : R (min (R a) (R b)) = min (R a) (R b) := by
    rcases Nat.le_total (R a) (R b) with e | e
    · rw [Nat.min_eq_left e]; exact ra
    · rw [Nat.min_eq_right e]; exact rb
  have hle : min (R a) (R b) ≤ max (R a) (R b) := by omega
  unfold Go.Proofs.Ytgpaoiddjlpcmaa.T3.mg
  generalize min (R a) (R b) = m at *
  generalize max (R a) (R b) = M at *
  refine ⟨fun v => ?_, fun v => ?_⟩
  · have := h.rle v
    unfold mgW
    split <;> omega
  · by_cases e : R v = M
    · rw [show mgW R M m v = m from if_pos e]
      unfold mgW
      rw [hm]; split <;> rfl
    · rw [show mgW R M m v = R v from if_neg e]
      unfold mgW
      rw [h.rr v, if_neg e]
theorem foldl_RT : ∀ (l : List A) (R : Nat → Nat), RT R → RT (l.foldl (fun R x => mg R x.f.toNat x.t.toNat) R)
  | [], _, h => h
  | _ :: r, _, h => foldl_RT r _ (h.mg _ _)
theorem lead_RT (l : List A) : RT (lead l) := foldl_RT l id ⟨fun _ => Nat.le_refl _, fun _ => rfl⟩
theorem foldl_eq : ∀ (l : List A) (R : Nat → Nat) (u v : Nat), R u = R v → l.foldl (fun R x => mg R x.f.toNat x.t.toNat) R u = l.foldl (fun R x => mg R x.f.toNat x.t.toNat) R v
  | [], _, _, _, h => h
  | x :: r, R, u, v, h => foldl_eq r _ u v (by simp only [mg, mgW, h])
theorem mg_joins (R : Nat → Nat) (a b : Nat) : mg R a b a = mg R a b b := by
  unfold mg mgW
  rcases Nat.lt_trichotomy (R a) (R b) with e | e | e
  · rw [if_neg (by omega), if_pos (by omega)]; omega
  · rw [e]
  · rw [if_pos (by omega), if_neg (by omega)]; omega
theorem foldl_arc : ∀ (l : List A) (R : Nat → Nat) (x : A), x ∈ l → l.foldl (fun R x => mg R x.f.toNat x.t.toNat) R x.f.toNat = l.foldl (fun R x => mg R x.f.toNat x.t.toNat) R x.t.toNat
  | y :: r, R, x, h => by
    rcases List.mem_cons.1 h with rfl | h
    · exact foldl_eq r _ _ _ (mg_joins R _ _)
    · exact foldl_arc r _ x h
theorem lead_arc {l : List A} {x : A} (h : x ∈ l) : lead l x.f.toNat = lead l x.t.toNat := foldl_arc l id x h
theorem foldl_const {S : Nat → Nat} : ∀ (l : List A) (R : Nat → Nat), (∀ x ∈ l, S x.f.toNat = S x.t.toNat) → (∀ v, S (R v) = S v) → ∀ v, S (l.foldl (fun R x => mg R x.f.toNat x.t.toNat) R v) = S v
  | [], _, _, h => h
  | x :: r, R, hl, h => foldl_const r _ (fun y hy => hl y (List.mem_cons_of_mem _ hy)) (fun v => by
      have e := hl x List.mem_cons_self
      have ea := h x.f.toNat
      have eb := h x.t.toNat
      show S (if R v = max (R x.f.toNat) (R x.t.toNat) then min (R x.f.toNat) (R x.t.toNat) else R v) = S v
      split
      · rename_i hv
        rw [← h v, hv]
        rcases Nat.le_total (R x.f.toNat) (R x.t.toNat) with k | k
        · rw [Nat.min_eq_left k, Nat.max_eq_right k, ea, eb, e]
        · rw [Nat.min_eq_right k, Nat.max_eq_left k, ea, eb, e]
      · exact h v)
/-- What no arc leads out of is the same at the leader. -/
theorem lead_const {S : Nat → Nat} {l : List A} (hl : ∀ x ∈ l, S x.f.toNat = S x.t.toNat) (v : Nat) : S (lead l v) = S v := foldl_const l id hl (fun _ => rfl) v
theorem cnt_mono (R : Nat → Nat) {m n : Nat} (h : m ≤ n) : cnt R m ≤ cnt R n := by
  induction n with
  | zero => have : m = 0 := by omega
            subst this; exact Nat.le_refl _
  | succ n ih =>
    by_cases e : m = n + 1
    · subst e; exact Nat.le_refl _
    · have := ih (by omega)
      show _ ≤ (if R n = n then cnt R n + 1 else cnt R n)
      split <;> omega
theorem cnt_root {R : Nat → Nat} {r n : Nat} (hr : R r = r) (h : r < n) : cnt R r < cnt R n := by
  have h1 : cnt R (r + 1) = cnt R r + 1 := by rw [cnt, if_pos hr]
  have := cnt_mono R (show r + 1 ≤ n by omega)
  omega
theorem cnt_inj {R : Nat → Nat} {r s : Nat} (hr : R r = r) (hs : R s = s) (h : cnt R r = cnt R s) : r = s := by
  rcases Nat.lt_trichotomy r s with e | e | e
  · have := cnt_root hr e; omega
  · exact e
  · have := cnt_root hs e; omega
theorem cnt_find {R : Nat → Nat} : ∀ {n p : Nat}, p < cnt R n → ∃ v, v < n ∧ R v = v ∧ cnt R v = p
  | 0, _, h => absurd h (by simp [cnt])
  | n + 1, p, h => by
    by_cases hn : R n = n
    · rw [cnt, if_pos hn] at h
      by_cases e : p = cnt R n
      · exact ⟨n, by omega, hn, e.symm⟩
      · obtain ⟨v, h1, h2⟩ := cnt_find (R := R) (n := n) (p := p) (by omega)
        exact ⟨v, by omega, h2⟩
    · rw [cnt, if_neg hn] at h
      obtain ⟨v, h1, h2⟩ := cnt_find h
      exact ⟨v, by omega, h2⟩
/-- Labels are tidy. -/
theorem lab_step {R : Nat → Nat} (h : RT R) (k : Nat) : (lab R k = cnt R k ∧ cnt R (k + 1) = cnt R k + 1) ∨ (lab R k < cnt R k ∧ cnt R (k + 1) = cnt R k) := by
  by_cases e : R k = k
  · exact Or.inl ⟨by unfold lab; rw [e], by rw [cnt, if_pos e]⟩
  · have := h.rle k
    exact Or.inr ⟨by unfold lab; exact cnt_root (h.rr k) (by omega), by rw [cnt, if_neg e]⟩
theorem lab_lead {R : Nat → Nat} (h : RT R) {u v : Nat} (e : lab R u = lab R v) : R u = R v := cnt_inj (h.rr u) (h.rr v) e
theorem lab_arc {l : List A} {x : A} (h : x ∈ l) : lab (lead l) x.f.toNat = lab (lead l) x.t.toNat := by unfold lab; rw [lead_arc h]
theorem lead_le {l m : List A} (h : ∀ x ∈ l, lead m x.f.toNat = lead m x.t.toNat) (v : Nat) : lead m v ≤ lead l v := by
  rw [← lead_const h v]
  exact (lead_RT m).rle _
theorem lead_one {l m : List A} (h1 : ∀ x ∈ l, lead m x.f.toNat = lead m x.t.toNat) (h2 : ∀ x ∈ m, lead l x.f.toNat = lead l x.t.toNat) : lead l = lead m := by
  funext v
  exact Nat.le_antisymm (lead_le h2 v) (lead_le h1 v)
end Go.Proofs.Ytgpaoiddjlpcmaa.T3
namespace Go.Proofs.Ytgpaoiddjlpcmaa.T3
open Go.RowKit
theorem info4 : (Try.prog.info? 4).map (fun i => (i.zero, i.size, i.bytes)) = some (some (.bool false), 1, 1) := by kernel_rfl
/-- Truths as cells. -/
def cellsB (l : List Bool) : List Value := l.map Value.bool
theorem cellsB_len (l : List Bool) : (cellsB l).length = l.length := by unfold cellsB; simp
theorem cellsB_getD (xs : List Bool) (k : Nat) (h : k < xs.length) : (cellsB xs)[k]? = some (.bool (xs.getD k false)) := by
  unfold cellsB
  simp [List.getD, List.getElem?_eq_getElem h]
theorem cellsB_set (xs : List Bool) (k : Nat) (x : Bool) : (cellsB xs).set k (.bool x) = cellsB (xs.set k x) := by
  unfold cellsB
  rw [List.map_set]
theorem getDB_set (L : List Bool) (k j : Nat) (x : Bool) (hk : k < L.length) : (L.set k x).getD j false = if j = k then x else L.getD j false := by
  by_cases h : j = k
  · subst h; simp [List.getD, hk]
  · rw [if_neg h]; simp [List.getD, Ne.symm h]
/-- Truths in a row of our own. -/
def OwnB (w : World) (g n : Nat) (L : List Bool) : Prop := w.ownsRow g 4 1 (.slice (some ⟨g, 0, none⟩) n n) n (cellsB L)
theorem OwnB.cell {w : World} {g n : Nat} {L : List Bool} (h : OwnB w g n L) (hl : L.length = n) (k : Nat) (hk : k < n) : w.cell? ⟨g, k, none⟩ = some (.bool (L.getD k false)) := by
  rw [World.ownsRow.cellAt h k (by omega), cellsB_getD _ k (by omega)]
theorem OwnB.set {w : World} {g n : Nat} {L : List Bool} (h : OwnB w g n L) (k : Nat) (x : Bool) : OwnB (w.setCell ⟨g, k, none⟩ (.bool x)) g n (L.set k x) := by
  have := (World.ownsRow.stored h k (.bool x)).1
  rw [cellsB_set] at this
  exact this
theorem OwnB.free {w : World} {g n : Nat} {L : List Bool} (h : OwnB w g n L) (k : Nat) : w.frozen? ⟨g, k, none⟩ = false := World.ownsRow.frozenAt h k
theorem OwnB.lt {w : World} {g n : Nat} {L : List Bool} (h : OwnB w g n L) : g < w.heap.size := (World.ownsRow.lt h g rfl).2
theorem OwnB.bools {w : World} {g n : Nat} {L : List Bool} (h : OwnB w g n L) (hl : L.length = n) : Bools (· < w.heap.size) w (some ⟨g, 0, none⟩) L :=
  Or.inr ⟨g, 0, rfl, h.lt, fun j hj => by rw [Nat.zero_add]; exact h.cell hl j (by omega)⟩
theorem ownB_new {w : World} {base n : Nat} (h : w.ownsRow base 4 1 (.slice (some ⟨base, 0, none⟩) n n) n (madeCells (Value.bool false).cells (n * 1)).toList) : OwnB w base n (List.replicate n false) := by
  have e : (madeCells (Value.bool false).cells (n * 1)).toList = cellsB (List.replicate n false) := by
    show (madeCells #[Value.bool false] (n * 1)).toList = _
    rw [toList_madeCells_one, Nat.mul_one]
    unfold cellsB
    simp
  rw [e] at h
  exact h
theorem mem_getD {l : List A} {j : Nat} (h : j < l.length) : l.getD j A.zero ∈ l := by
  rw [show l.getD j A.zero = l[j] by simp [List.getD, List.getElem?_eq_getElem h]]; exact List.getElem_mem h
theorem labsI_getD (R : Nat → Nat) (n k : Nat) (h : k < n) : (ints (labs R n)).getD k 0 = ((lab R k : Nat) : Int) := by rw [ints_getD, labs_getD R n k h]
end Go.Proofs.Ytgpaoiddjlpcmaa.T3
namespace Go.Proofs.Ytgpaoiddjlpcmaa.T3
open Go.RowKit
/-- A row of numbers of our own, full. -/
def OwnZ (w : World) (g n : Nat) (L : List Int) : Prop := w.ownsRow g 3 1 (.slice (some ⟨g, 0, none⟩) n n) n (cellsI L)
theorem OwnZ.cell {w : World} {g n : Nat} {L : List Int} (h : OwnZ w g n L) (hl : L.length = n) (k : Nat) (hk : k < n) : w.cell? ⟨g, k, none⟩ = some (.int .i64 (L.getD k 0)) := by
  rw [World.ownsRow.cellAt h k (by omega), cellsI_getD L k (by omega)]
theorem OwnZ.set {w : World} {g n : Nat} {L : List Int} (h : OwnZ w g n L) (k : Nat) (x : Int) : OwnZ (w.setCell ⟨g, k, none⟩ (.int .i64 x)) g n (L.set k x) := by
  have := (World.ownsRow.stored h k (.int .i64 x)).1
  rw [cellsI_set] at this
  exact this
theorem OwnZ.free {w : World} {g n : Nat} {L : List Int} (h : OwnZ w g n L) (k : Nat) : w.frozen? ⟨g, k, none⟩ = false := World.ownsRow.frozenAt h k
theorem OwnZ.lt {w : World} {g n : Nat} {L : List Int} (h : OwnZ w g n L) : g < w.heap.size := (World.ownsRow.lt h g rfl).2
theorem getDI_set (L : List Int) (k j : Nat) (x : Int) (hk : k < L.length) : (L.set k x).getD j 0 = if j = k then x else L.getD j 0 := by
  by_cases h : j = k
  · subst h; simp [List.getD, hk]
  · rw [if_neg h]; simp [List.getD, Ne.symm h]
theorem ext_labs {R : Nat → Nat} {n : Nat} {X : List Int} (hx : X.length = n) (h : ∀ j, j < n → X.getD j 0 = ((lab R j : Nat) : Int)) : X = ints (labs R n) := by
  apply List.ext_getElem
  · rw [hx, ints_len, labs_len]
  · intro i h1 h2
    have e1 := h i (by omega)
    have e2 := labsI R n i (by omega)
    rw [← e2] at e1
    simpa [List.getD, List.getElem?_eq_getElem h1, List.getElem?_eq_getElem h2] using e1
where labsI (R : Nat → Nat) (n k : Nat) (h : k < n) : (ints (labs R n)).getD k 0 = ((lab R k : Nat) : Int) := by rw [ints_getD, labs_getD R n k h]
set_option maxHeartbeats 1600000 in
theorem rtidy_any (g n : Nat) (L : List Nat) (R : Nat → Nat) (w : World) (hn : n ≤ 1024) (hRT : RT R) (hLl : L.length = n) (hS : ∀ u v, u < n → v < n → (L.getD u 0 = L.getD v 0 ↔ R u = R v)) (ho : OwnL w g n L) :
    Calls Try.prog 49 #[.slice (some ⟨g, 0, none⟩) n n] w fun e w' => e = .returned (.slice (some ⟨w.heap.size, 0, none⟩) n n) ∧ OwnL w' w.heap.size n (labs R n) ∧ Below w.heap.size w w' := by
  obtain ⟨i0, hi, hz0, hz1, hz2⟩ := info_parts info3
  have hg := ho.lt
  have HS := Lib.hid hS
  have HRT := Lib.hid hRT
  have HLl := Lib.hid hLl
  clear hS hRT hLl
  go_enter Try.func49, Try.ntmps49
  go_wp2_with (at_make; refine wpList_make_full _ rfl (.tmp 8) (.tmp 8) 25 rfl w.heap.size 3 i0 (.int .i64 0) 1 Try.underlying25 hi hz0 hz1 .i64 .i64 n n n rfl rfl rfl rfl (by rw [hz2]; omega) (by unfold maxLen; omega) (Nat.le_refl _) ?_; intro w1 hown1 hgrow1)
  have hown0 : OwnZ w1 w.heap.size n (List.replicate n 0) := by
    have e : (madeCells (Value.int .i64 0).cells (n * 1)).toList = cellsI (List.replicate n 0) := by
      show (madeCells #[Value.int .i64 0] (n * 1)).toList = _
      rw [toList_madeCells_one, Nat.mul_one]
      unfold cellsI
      simp
    rw [e] at hown1
    exact hown1
  have hb1 : Below w.heap.size w w1 := (Below.refl _ _).grown hgrow1 (Nat.le_refl _) (by intro k hk; cases hk)
  clear hown1 hgrow1
  go_loopw [4, 5] (fun t i wr => ∃ (k : Nat) (X : List Int), k ≤ n ∧ i = .int .i64 (k : Int) ∧ t = .int .i64 ((cnt R k : Nat) : Int) ∧ Hid (X.length = n) ∧ Hid (∀ j, j < k → X.getD j 0 = ((lab R j : Nat) : Int)) ∧ OwnZ wr w.heap.size n X ∧ Below w.heap.size w wr) (fun _ i _ => n - (intOf i).toNat)
  case atStart => exact ⟨0, List.replicate n 0, Nat.zero_le _, rfl, rfl, by show _ = _; simp, by intro j hj; omega, hown0, hb1⟩
  case round =>
    obtain ⟨k, X, hk, rfl, rfl, HX, HJ, hown, hbel⟩ := hrel
    clear hown0 hb1
    have hck := cnt_le R k
    by_cases hlt : k < n
    · have cx := hown.cell HX.out k hlt
      have fx := hown.free k
      have hXl : k < X.length := by rw [HX.out]; exact hlt
      have hst := hown.set k (-1)
      have HJ1 : Hid (∀ j, j < k → (X.set k (-1)).getD j 0 = ((lab R j : Nat) : Int)) := by
        show ∀ j, _
        intro j hj
        rw [getDI_set _ _ _ _ hXl, if_neg (by omega)]
        exact HJ.out j hj
      have HK1 : Hid ((X.set k (-1)).getD k 0 = -1) := by show _ = _; rw [getDI_set _ _ _ _ hXl, if_pos rfl]
      have HX1 : Hid ((X.set k (-1)).length = n) := by show _ = _; rw [List.length_set]; exact HX.out
      have hb2 := hbel.setCell (p := ⟨w.heap.size, k, none⟩) (Nat.le_refl _) (.int .i64 (-1))
      generalize X.getD k 0 = x0 at *
      generalize X.set k (-1) = X1 at *
      obtain ⟨c, HC⟩ := named (cnt R k)
      rw [HC.out] at hck ⊢
      clear HJ HX hXl
      go_wp2_with fail
      go_loopw [6] (fun i wr => ∃ (u : Nat) (Y : List Int), u ≤ k ∧ i = .int .i64 (u : Int) ∧ Hid (Y.length = n) ∧ Hid (∀ j, j < k → Y.getD j 0 = ((lab R j : Nat) : Int)) ∧ Hid ((Y.getD k 0 = -1 ∧ ∀ j, j < u → L.getD j 0 ≠ L.getD k 0) ∨ (Y.getD k 0 = ((lab R k : Nat) : Int) ∧ R k ≠ k)) ∧ OwnZ wr w.heap.size n Y ∧ Below w.heap.size w wr) (fun i _ => k - (intOf i).toNat)
      case atStart => exact ⟨0, X1, Nat.zero_le _, rfl, HX1, HJ1, Or.inl ⟨HK1.out, by intro j hj; omega⟩, hst, hb2⟩
      case round =>
        obtain ⟨u, Y, hu, rfl, HY, HYJ, HALT, ho3, hb3⟩ := hrel
        clear cx fx hst hb2 HJ1 HK1 HX1 hown hbel
        have ck := ho3.cell HY.out k hlt
        have fk := ho3.free k
        have hYl : k < Y.length := by rw [HY.out]; exact hlt
        rcases HALT.out with ⟨e1, e2⟩ | ⟨e1, e2⟩
        · rw [e1] at ck
          by_cases huk : u < k
          · have lu := (hb3.cell (p := ⟨g, u, none⟩) hg).trans (ho.cell HLl.out u (by omega))
            have lk := (hb3.cell (p := ⟨g, k, none⟩) hg).trans (ho.cell HLl.out k hlt)
            have cu := ho3.cell HY.out u (by omega)
            rw [HYJ.out u huk] at cu
            by_cases hq : L.getD u 0 = L.getD k 0
            · rw [hq] at lu
              have hR := (HS.out u k (by omega) hlt).1 hq
              have HNE : Hid (R k ≠ k) := by
                show _ ≠ _
                intro h
                have := HRT.out.rle u
                omega
              have HLB : Hid (lab R k = lab R u) := by show _ = _; unfold lab; rw [hR]
              have hst := ho3.set k ((lab R u : Nat) : Int)
              have HJ2 : Hid (∀ j, j < k → (Y.set k ((lab R u : Nat) : Int)).getD j 0 = ((lab R j : Nat) : Int)) := by
                show ∀ j, _
                intro j hj
                rw [getDI_set _ _ _ _ hYl, if_neg (by omega)]
                exact HYJ.out j hj
              have HK2 : Hid ((Y.set k ((lab R u : Nat) : Int)).getD k 0 = ((lab R k : Nat) : Int)) := by show _ = _; rw [getDI_set _ _ _ _ hYl, if_pos rfl, HLB.out]
              have HX2 : Hid ((Y.set k ((lab R u : Nat) : Int)).length = n) := by show _ = _; rw [List.length_set]; exact HY.out
              clear e1 e2 hq hR
              generalize lab R u = z at *
              generalize L.getD k 0 = y at *
              go_wp2_with fail
              go_quiet (fail)
              go_wp2_with fail
              exact ⟨⟨u + 1, _, by omega, by go_num, HX2, HJ2, Or.inr ⟨HK2.out, HNE.out⟩, OwnZ.set (w := wr.drewN nq) (show OwnZ (wr.drewN nq) _ _ _ from ho3) k _, (hb3.trans (below_drewN _ _ _)).setCell (Nat.le_refl _) _⟩, by simp [intOf]; omega⟩
            · have hq' : (((L.getD u 0 : Nat) : Int) == ((L.getD k 0 : Nat) : Int)) = false := beq_eq_false_iff_ne.2 (by omega)
              have HE2 : Hid (∀ j, j < u + 1 → L.getD j 0 ≠ L.getD k 0) := by
                show ∀ j, _
                intro j hj
                by_cases e : j = u
                · rw [e]; exact hq
                · exact e2 j (by omega)
              clear e2 hq
              have E1 := Lib.hid e1
              clear e1
              generalize L.getD u 0 = y1 at *
              generalize L.getD k 0 = y2 at *
              generalize lab R u = z at *
              go_wp2_with fail
              go_quiet (fail)
              go_wp2_with fail
              exact ⟨⟨u + 1, Y, by omega, by go_num, HY, HYJ, Or.inl ⟨E1.out, HE2.out⟩, ho3, hb3.trans (below_drewN _ _ _)⟩, by simp [intOf]; omega⟩
          · have hRk : R k = k := by
              rcases Nat.lt_or_ge (R k) k with h | h
              · exact absurd ((HS.out (R k) k (by omega) hlt).2 (HRT.out.rr k)) (e2 (R k) (by omega))
              · have := HRT.out.rle k
                omega
            have HE2 : Hid (cnt R (k + 1) = c + 1) := by show _ = _; rw [cnt, if_pos hRk, HC.out]
            have HLB : Hid (lab R k = c) := by show _ = _; unfold lab; rw [hRk, HC.out]
            have hst := ho3.set k (c : Int)
            have HJ2 : Hid (∀ j, j < k + 1 → (Y.set k (c : Int)).getD j 0 = ((lab R j : Nat) : Int)) := by
              show ∀ j, _
              intro j hj
              rw [getDI_set _ _ _ _ hYl]
              split
              · rename_i e; rw [e, HLB.out]
              · exact HYJ.out j (by omega)
            have HX2 : Hid ((Y.set k (c : Int)).length = n) := by show _ = _; rw [List.length_set]; exact HY.out
            clear e1 e2 hRk
            go_wp2_with fail
            exact ⟨⟨k + 1, _, by omega, by go_num, by rw [HE2.out]; go_num, HX2, HJ2, hst, hb3.setCell (Nat.le_refl _) _⟩, by simp [intOf]; omega⟩
        · have HE2 : Hid (cnt R (k + 1) = c) := by show _ = _; rw [cnt, if_neg e2, HC.out]
          have HJ2 : Hid (∀ j, j < k + 1 → Y.getD j 0 = ((lab R j : Nat) : Int)) := by
            show ∀ j, _
            intro j hj
            by_cases e : j = k
            · rw [e, e1]
            · exact HYJ.out j (by omega)
          rw [e1] at ck
          have E1 := Lib.hid e1
          clear e1 e2
          generalize lab R k = z at *
          have hz0 : ¬ ((z : Nat) : Int) < 0 := by omega
          by_cases huk : u < k
          · go_wp2_with fail
            exact ⟨⟨k + 1, Y, by omega, by go_num, by rw [HE2.out], HY, HJ2, ho3, hb3⟩, by simp [intOf]; omega⟩
          · go_wp2_with fail
            exact ⟨⟨k + 1, Y, by omega, by go_num, by rw [HE2.out], HY, HJ2, ho3, hb3⟩, by simp [intOf]; omega⟩
    · have hX : X = ints (labs R n) := ext_labs HX.out (fun j hj => HJ.out j (by omega))
      rw [hX] at hown
      clear hX
      go_wp2_with fail
      go_ret
      exact ⟨rfl, hown, hbel⟩
end Go.Proofs.Ytgpaoiddjlpcmaa.T3
