/-
  Vertices that go over from cell to cell: the mathematics. Contracts of slices.Clone and split.CutUp. The contract of split.CutUp.
-/
import Derived.Test.YtgpaoiddjlpcmaaZAJ
import Derived.Test.YtgpaoiddjlpcmaaZAB
namespace Go.Proofs.Ytgpaoiddjlpcmaa
open Go.RowKit
theorem one_I (xs : List Int) : ∀ u ∈ cellsI xs, u.oneCell' = true := by
  intro u hu
  unfold cellsI at hu
  obtain ⟨x, _, rfl⟩ := List.mem_map.1 hu
  rfl
theorem ints_newsC {w : World} {ad : Addr} {xs : List Int} (h : Ints w (some ad) xs) (o : Obj) : ∀ j u, (cellsI xs)[j]? = some u → (w.alloc o).cell? (ad.add j) = some u := by
  intro j u hu
  rcases h with rfl | ⟨b, o', hab, hl, hc⟩
  · simp [cellsI] at hu
  · cases hab
    have hj : j < xs.length := by
      rcases Nat.lt_or_ge j xs.length with h' | h'
      · exact h'
      · rw [List.getElem?_eq_none (by rw [cellsI_len]; exact h')] at hu; cases hu
    rw [cellsI_getD xs j hj] at hu
    rw [Go.WideShapes.add_plain]
    exact ((((Below.refl w.heap.size w).alloc (Nat.le_refl _) o).cell (p := ⟨b, o' + j, none⟩) hl).trans (hc j hj)).trans hu
set_option maxRecDepth 100000 in
set_option maxHeartbeats 800000 in
theorem clone_any (ad : Addr) (xs : List Int) (bc : Nat) (w : World) (hl : xs.length ≤ 1024) (hi : Ints w (some ad) xs) :
    Calls Try.prog 54 #[.slice (some ad) xs.length bc] w fun e w' => ∃ g c, e = .returned (.slice (some ⟨g, 0, none⟩) xs.length c) ∧ w'.ownsRow w.heap.size 3 1 (.slice (some ⟨g, 0, none⟩) xs.length c) xs.length (cellsI xs) ∧ Below w.heap.size w w' := by
  obtain ⟨i3, hi3, hz3, hs3, hby3⟩ := info_parts info3
  have HNW := Lib.hid (ints_newsC hi (.cells #[] 3))
  have HOW : Hid ((w.alloc (.cells #[] 3)).ownsRow w.heap.size 3 1 (.slice (some ⟨w.heap.size, 0, none⟩) 0 0) 0 []) := World.ownsRow_lit (base := w.heap.size) (e := 3) (size := 1) w #[] 0 (Nat.le_refl _) (by decide) rfl
  have HBB : Hid (Below w.heap.size w (w.alloc (.cells #[] 3))) := (Below.refl _ _).alloc (Nat.le_refl _) _
  have HCL : Hid ((cellsI xs).length = xs.length * 1) := by show _ = _; rw [cellsI_len]; omega
  have q25 : ∀ (w : World) (a : Option Addr) (n c n' c' : Nat), (binOp .eql 25 (.slice a n c) (.slice none n' c')).run Try.prog w = .ok (.bool a.isNone) w := fun w a n c n' c' => Lib.run_eql_slice_nil w _ _ a n c n' c' Try.underlying25
  go_enter Try.func54, Try.ntmps54
  go_wp2_with (at_builtin; refine wpList_append_own _ rfl (.tmp 5) (.tmp 6) 25 rfl w.heap.size 3 i3 (.int .i64 0) 1 8 Try.underlying25 hi3 hz3 hs3 hby3 rfl (by decide) (.slice (some ⟨w.heap.size, 0, none⟩) 0 0) 0 [] rfl HOW.out ad xs.length bc (cellsI xs) rfl HCL.out HNW.out (one_I _) (by unfold maxLen; omega) (by omega) (by simp) ?_; intro v6 w6 hown6 hgrow6 hnil6; obtain ⟨g6, c6, hv6, _, _, _, _⟩ := own_shape hown6 (fun e => by have := hnil6.1 e; simp at this); rw [hv6] at hown6 ⊢; clear hnil6 hv6; simp only [Nat.zero_add, List.nil_append] at hown6 ⊢; have HO6 := Lib.hid hown6; have HB6 : Hid (Below w.heap.size w w6) := HBB.out.grown hgrow6 (by simp) (by intro k hk; cases hk; exact Nat.le_refl _); clear hown6 hgrow6)
  go_ret
  exact ⟨g6, c6, rfl, HO6.out, HB6.out⟩
theorem right_ints {xs : List Int} (h : tdy xs 0 = true) : xs = ints (xs.map Int.toNat) := by
  apply List.ext_getElem
  · rw [ints_len, List.length_map]
  · intro i h1 h2
    have h3 := (right_next h i h1).1
    rw [show xs.getD i 0 = xs[i] by simp [List.getD, List.getElem?_eq_getElem h1]] at h3
    simp only [ints, List.getElem_map]
    omega
end Go.Proofs.Ytgpaoiddjlpcmaa
namespace Go.Proofs.Ytgpaoiddjlpcmaa
open Go.RowKit
theorem szL_length (xs : List Int) : (szL xs).length ≤ xs.length := by
  have : ∀ (xs : List Int) (S : List Nat), (xs.foldl (fun S x => szS S x.toNat) S).length ≤ S.length + xs.length := by
    intro xs
    induction xs with
    | nil => intro S; exact Nat.le_refl _
    | cons x r ih =>
      intro S
      have h := ih (szS S x.toNat)
      rw [szS_len] at h
      simp only [List.foldl_cons, List.length_cons]
      split at h <;> omega
  have h := this xs []
  simpa [szL] using h
end Go.Proofs.Ytgpaoiddjlpcmaa
namespace Go.Proofs.Ytgpaoiddjlpcmaa
open Go.RowKit
theorem getD_in {L : List Nat} {v : Nat} (h : v < L.length) : L.getD v 0 = L[v] := by simp [List.getD, h]
theorem mem_getDN {L : List Nat} {x : Nat} (h : x ∈ L) : ∃ u, u < L.length ∧ L.getD u 0 = x := by
  obtain ⟨j, hj, rfl⟩ := List.mem_iff_getElem.1 h
  exact ⟨j, hj, getD_in hj⟩
theorem as_range (L : List Nat) : L = (List.range L.length).map (fun v => L.getD v 0) := by
  refine List.ext_getElem (by simp) (fun i h1 h2 => ?_)
  simp [List.getD, h1]
theorem count_at (L : List Nat) (x : Nat) : L.count x = (List.range L.length).countP (fun v => decide (L.getD v 0 = x)) := by
  have h := congrArg (List.count x) (as_range L)
  rw [h, List.count, List.countP_map]
  congr 1
/-- Two labellings that are alike at the same vertices. -/
structure Pat (L T : List Nat) : Prop where
  len : T.length = L.length
  eq : ∀ u v, u < L.length → v < L.length → (L.getD u 0 = L.getD v 0 ↔ T.getD u 0 = T.getD v 0)
theorem Pat.refl (L : List Nat) : Pat L L := ⟨rfl, fun _ _ _ _ => Iff.rfl⟩
theorem Pat.symm {L T : List Nat} (h : Pat L T) : Pat T L := ⟨h.len.symm, fun u v hu hv => (h.eq u v (h.len ▸ hu) (h.len ▸ hv)).symm⟩
theorem Pat.trans {L T U : List Nat} (h : Pat L T) (h2 : Pat T U) : Pat L U := ⟨h2.len.trans h.len, fun u v hu hv => (h.eq u v hu hv).trans (h2.eq u v (by rw [h.len]; exact hu) (by rw [h.len]; exact hv))⟩
theorem Pat.count {L T : List Nat} (h : Pat L T) {u : Nat} (hu : u < L.length) : T.count (T.getD u 0) = L.count (L.getD u 0) := by
  rw [count_at, count_at, h.len]
  refine List.countP_congr (fun v hv => ?_)
  have hv := List.mem_range.1 hv
  simp only [decide_eq_true_eq]
  exact (h.eq v u hv hu).symm
theorem Pat.lead {L T : List Nat} (h : Pat L T) {v : Nat} (hv : v < L.length) : ldI (ints L) v = ldI (ints T) v := by
  have hl := h.len
  have a1 := ldI_le (ints L) v
  have a2 := ldI_le (ints T) v
  have b1 := ldI_at (ints L) v
  have b2 := ldI_at (ints T) v
  rw [ints_at (by omega), ints_at hv] at b1
  rw [ints_at (by omega), ints_at (by omega)] at b2
  rcases Nat.lt_trichotomy (ldI (ints L) v) (ldI (ints T) v) with e | e | e
  · have := ldI_min e
    rw [ints_at (by omega), ints_at (by omega)] at this
    exact absurd (congrArg (fun x : Nat => (x : Int)) ((h.eq (ldI (ints L) v) v (by omega) hv).1 (by omega))) this
  · exact e
  · have := ldI_min e
    rw [ints_at (by omega), ints_at hv] at this
    exact absurd (congrArg (fun x : Nat => (x : Int)) ((h.eq (ldI (ints T) v) v (by omega) hv).2 (by omega))) this
theorem cnt_cong {R R' : Nat → Nat} : ∀ k, (∀ w, w < k → R w = R' w) → T3.cnt R k = T3.cnt R' k
  | 0, _ => rfl
  | k + 1, h => by
    rw [T3.cnt, T3.cnt, h k (by omega), cnt_cong k (fun w hw => h w (by omega))]
theorem Pat.tidy {L T : List Nat} (h : Pat L T) : tdL T = tdL L := by
  unfold tdL T3.labs
  rw [h.len]
  refine List.map_congr_left (fun v hv => ?_)
  have hv := List.mem_range.1 hv
  unfold T3.lab
  rw [← h.lead hv]
  refine cnt_cong _ (fun w hw => (h.lead ?_).symm)
  have := ldI_le (ints L) v
  omega
theorem tdL_getD {L : List Nat} {v : Nat} (h : v < L.length) : (tdL L).getD v 0 = T3.lab (ldI (ints L)) v := T3.labs_getD _ _ _ h
theorem tdL_eq {L : List Nat} {u v : Nat} (hu : u < L.length) (hv : v < L.length) : (tdL L).getD u 0 = (tdL L).getD v 0 ↔ L.getD u 0 = L.getD v 0 := by
  rw [tdL_getD hu, tdL_getD hv]
  constructor
  · intro h
    have h1 := T3.lab_lead (ldI_RT (ints L)) h
    have h2 := ldI_iff.2 h1
    rw [ints_at hu, ints_at hv] at h2
    omega
  · intro h
    have h1 : ldI (ints L) u = ldI (ints L) v := ldI_eq (by rw [ints_at hu, ints_at hv, h])
    unfold T3.lab
    rw [h1]
theorem pat_tdL (L : List Nat) : Pat L (tdL L) := ⟨tdL_len L, fun _ _ hu hv => (tdL_eq hu hv).symm⟩
theorem tdL_right (L : List Nat) : tdy (ints (tdL L)) 0 = true := by
  have h := tdy_labs (ldI_RT (ints L)) L.length L.length 0 (by omega)
  rw [List.drop_zero] at h
  exact h
theorem tdL_self {L : List Nat} (h : tdy (ints L) 0 = true) : tdL L = L := by
  have h1 := (tdy_iff (ints L)).1 h
  rw [ints_len] at h1
  have h2 : ints L = ints (tdL L) := h1
  have h3 := congrArg (List.map Int.toNat) h2
  simpa [ints, Function.comp_def] using h3.symm
/-- Pairs of vertices. -/
def PIn (P : List Pr) (n : Nat) : Prop := ∀ p, p ∈ P → p.a < n ∧ p.b < n
/-- A pair of v with a vertex of a label. -/
def hitV (L : List Nat) (v x : Nat) (p : Pr) : Bool := (decide (p.a = v) && decide (L.getD p.b 0 = x)) || (decide (p.b = v) && decide (L.getD p.a 0 = x))
/-- How many pairs v has with the vertices of a label. -/
def cv (P : List Pr) (L : List Nat) (v x : Nat) : Nat := P.countP (hitV L v x)
theorem cv_snoc (P : List Pr) (L : List Nat) (v x : Nat) (p : Pr) : cv (P ++ [p]) L v x = cv P L v x + if hitV L v x p = true then 1 else 0 := by
  unfold cv
  rw [List.countP_append]
  simp [List.countP_cons]
theorem cv_le (P : List Pr) (L : List Nat) (v x : Nat) : cv P L v x ≤ P.length := List.countP_le_length
theorem cv_pos {P : List Pr} {L : List Nat} {v x : Nat} (hP : PIn P L.length) (h : 0 < cv P L v x) : v < L.length ∧ ∃ u, u < L.length ∧ L.getD u 0 = x := by
  unfold cv at h
  rw [List.countP_pos_iff] at h
  obtain ⟨p, hp, h⟩ := h
  have h1 := hP p hp
  unfold hitV at h
  simp only [Bool.or_eq_true, Bool.and_eq_true, decide_eq_true_eq] at h
  rcases h with ⟨e1, e2⟩ | ⟨e1, e2⟩
  · exact ⟨by omega, p.b, h1.2, e2⟩
  · exact ⟨by omega, p.a, h1.1, e2⟩
theorem Pat.cvE {L T : List Nat} (h : Pat L T) {P : List Pr} (hP : PIn P L.length) (v : Nat) {u : Nat} (hu : u < L.length) : cv P T v (T.getD u 0) = cv P L v (L.getD u 0) := by
  unfold cv
  refine List.countP_congr (fun p hp => ?_)
  have h1 := hP p hp
  unfold hitV
  simp only [Bool.or_eq_true, Bool.and_eq_true, decide_eq_true_eq]
  rw [h.eq p.b u h1.2 hu, h.eq p.a u h1.1 hu]
/-- The gain of v, if it goes over to the label of f. -/
def gn (P : List Pr) (L : List Nat) (v f : Nat) : Int := (cv P L v (L.getD f 0) : Int) - (cv P L v (L.getD v 0) : Int)
/-- A move that is open: of v to the label of f, the first of that label. -/
def Open (P : List Pr) (L : List Nat) (B v f : Nat) : Prop := v < L.length ∧ f < L.length ∧ ldI (ints L) f = f ∧ 0 < gn P L v f ∧ L.count (L.getD f 0) < B
def noWorse (g : Int) (v f : Nat) (g' : Int) (v' f' : Nat) : Prop := g' < g ∨ g' = g ∧ (v < v' ∨ v = v' ∧ f ≤ f')
/-- The next move. -/
def Nxt (P : List Pr) (L : List Nat) (B v f : Nat) : Prop := Open P L B v f ∧ ∀ v' f', Open P L B v' f' → noWorse (gn P L v f) v f (gn P L v' f') v' f'
theorem Nxt.one {P : List Pr} {L : List Nat} {B v f v' f' : Nat} (h : Nxt P L B v f) (h' : Nxt P L B v' f') : v = v' ∧ f = f' := by
  have h1 := h.2 v' f' h'.1
  have h2 := h'.2 v f h.1
  unfold noWorse at h1 h2
  omega
theorem Pat.gnE {L T : List Nat} (h : Pat L T) {P : List Pr} (hP : PIn P L.length) {v f : Nat} (hv : v < L.length) (hf : f < L.length) : gn P T v f = gn P L v f := by
  unfold gn
  rw [h.cvE hP v hf, h.cvE hP v hv]
theorem Pat.openE {L T : List Nat} (h : Pat L T) {P : List Pr} (hP : PIn P L.length) {B v f : Nat} (ho : Open P L B v f) : Open P T B v f := by
  obtain ⟨h1, h2, h3, h4, h5⟩ := ho
  refine ⟨by rw [h.len]; exact h1, by rw [h.len]; exact h2, by rw [← h.lead h2]; exact h3, by rw [h.gnE hP h1 h2]; exact h4, by rw [h.count h2]; exact h5⟩
theorem Pat.nxtE {L T : List Nat} (h : Pat L T) {P : List Pr} (hP : PIn P L.length) {B v f : Nat} (hn : Nxt P L B v f) : Nxt P T B v f := by
  refine ⟨h.openE hP hn.1, fun v' f' ho => ?_⟩
  have hP2 : PIn P T.length := by rw [h.len]; exact hP
  have ho2 := h.symm.openE hP2 ho
  rw [h.gnE hP hn.1.1 hn.1.2.1, h.gnE hP ho2.1 ho2.2.1]
  exact hn.2 v' f' ho2
theorem getD_setN' {S : List Nat} {k j x : Nat} (hk : k < S.length) : (S.set k x).getD j 0 = if j = k then x else S.getD j 0 := getD_setN hk
theorem Pat.setE {L T : List Nat} (h : Pat L T) {v f : Nat} (hv : v < L.length) (hf : f < L.length) : Pat (L.set v (L.getD f 0)) (T.set v (T.getD f 0)) := by
  refine ⟨by rw [List.length_set, List.length_set]; exact h.len, fun s t hs ht => ?_⟩
  rw [List.length_set] at hs ht
  rw [getD_setN hv, getD_setN hv, getD_setN (by rw [h.len]; exact hv), getD_setN (by rw [h.len]; exact hv)]
  by_cases e1 : s = v <;> by_cases e2 : t = v
  · rw [if_pos e1, if_pos e2, if_pos e1, if_pos e2]; exact ⟨fun _ => rfl, fun _ => rfl⟩
  · rw [if_pos e1, if_neg e2, if_pos e1, if_neg e2]; exact h.eq f t hf ht
  · rw [if_neg e1, if_pos e2, if_neg e1, if_pos e2]; exact h.eq s f hs hf
  · rw [if_neg e1, if_neg e2, if_neg e1, if_neg e2]; exact h.eq s t hs ht
/-- At most so many moves lead from labels to labels; how many there were. -/
inductive Imp (P : List Pr) (B : Nat) : Nat → List Nat → List Nat → Nat → Prop
  | zero {L : List Nat} : Imp P B 0 L L 0
  | stop {k : Nat} {L : List Nat} (h : ∀ v f, ¬ Open P L B v f) : Imp P B k L L 0
  | step {k m v f : Nat} {L E : List Nat} (h : Nxt P L B v f) (r : Imp P B k (L.set v (L.getD f 0)) E m) : Imp P B (k + 1) L E (m + 1)
theorem Imp.len {P : List Pr} {B k m : Nat} {L E : List Nat} (h : Imp P B k L E m) : E.length = L.length := by
  induction h with
  | zero => rfl
  | stop _ => rfl
  | step _ _ ih => rw [ih, List.length_set]
theorem Imp.one {P : List Pr} {B k m m' : Nat} {L E E' : List Nat} (h : Imp P B k L E m) : Imp P B k L E' m' → E = E' ∧ m = m' := by
  induction h generalizing E' m' with
  | zero =>
    intro h2
    cases h2 with
    | zero => exact ⟨rfl, rfl⟩
    | stop _ => exact ⟨rfl, rfl⟩
  | stop h =>
    intro h2
    cases h2 with
    | zero => exact ⟨rfl, rfl⟩
    | stop _ => exact ⟨rfl, rfl⟩
    | step h3 _ => exact absurd h3.1 (h _ _)
  | step h _ ih =>
    intro h2
    cases h2 with
    | stop h3 => exact absurd h.1 (h3 _ _)
    | step h3 r3 =>
      obtain ⟨rfl, rfl⟩ := h.one h3
      obtain ⟨rfl, rfl⟩ := ih r3
      exact ⟨rfl, rfl⟩
theorem Imp.pat {P : List Pr} {B k m : Nat} {L E T : List Nat} (h : Imp P B k L E m) (hp : Pat L T) (hP : PIn P L.length) : ∃ E', Imp P B k T E' m ∧ Pat E E' := by
  induction h generalizing T with
  | zero => exact ⟨T, .zero, hp⟩
  | stop h => exact ⟨T, .stop (fun v f ho => h v f (hp.symm.openE (by rw [hp.len]; exact hP) ho)), hp⟩
  | @step k m v f L E h _ ih =>
    obtain ⟨E', h1, h2⟩ := ih (hp.setE h.1.1 h.1.2.1) (by rw [List.length_set]; exact hP)
    exact ⟨E', .step (hp.nxtE hP h) h1, h2⟩
/-- The same, tidied behind each move. -/
inductive RImp (P : List Pr) (B : Nat) : Nat → List Nat → List Nat → Nat → Prop
  | zero {L : List Nat} : RImp P B 0 L L 0
  | stop {k : Nat} {L : List Nat} (h : ∀ v f, ¬ Open P L B v f) : RImp P B k L L 0
  | step {k m v f : Nat} {L E : List Nat} (h : Nxt P L B v f) (r : RImp P B k (tdL (L.set v (L.getD f 0))) E m) : RImp P B (k + 1) L E (m + 1)
theorem Imp.tidied {P : List Pr} {B k m : Nat} {L E T : List Nat} (h : Imp P B k L E m) (hT : T = tdL L) (hP : PIn P L.length) : RImp P B k T (tdL E) m := by
  induction h generalizing T with
  | zero => rw [hT]; exact .zero
  | @stop k L h =>
    rw [hT]
    exact .stop (fun v f ho => h v f ((pat_tdL L).symm.openE (by rw [tdL_len]; exact hP) ho))
  | @step k m v f L E h _ ih =>
    have hp : Pat L T := by rw [hT]; exact pat_tdL L
    refine .step (hp.nxtE hP h) (ih ?_ (by rw [List.length_set]; exact hP))
    exact (hp.setE h.1.1 h.1.2.1).tidy
end Go.Proofs.Ytgpaoiddjlpcmaa
