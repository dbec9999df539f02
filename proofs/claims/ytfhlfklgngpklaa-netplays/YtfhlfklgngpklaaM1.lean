/-
  Mathematics: a link's letters in the reference's list.
-/
import Derived.Test.YtfhlfklgngpklaaR12
namespace Go.Proofs.Ytfhlfklgngpklaa
open Go.RowKit Go.Maps
/-- A link's letters. -/
def bgF (p : Pr) (l : List Lt) : List ByteArray := (l.filter (fun x => decide (x.p = p))).map Lt.s
theorem bgF_append (p : Pr) (l m : List Lt) : bgF p (l ++ m) = bgF p l ++ bgF p m := by unfold bgF; simp
theorem bgF_cons (p : Pr) (x : Lt) (l : List Lt) : bgF p (x :: l) = (if x.p = p then [x.s] else []) ++ bgF p l := by
  unfold bgF
  by_cases h : x.p = p <;> simp [h]
theorem pls_map (p : Pr) : ∀ (l pre : List Lt), (pls p l pre.length).map (fun k => ((pre ++ l).getD k lz).s) = bgF p l
  | [], pre => by simp [pls, bgF]
  | x :: r, pre => by
    have ih := pls_map p r (pre ++ [x])
    rw [List.length_append, List.append_assoc] at ih
    simp only [List.length_cons, List.length_nil, Nat.zero_add, List.singleton_append] at ih
    rw [bgF_cons]
    simp only [pls]
    by_cases h : x.p = p
    · rw [if_pos h, if_pos h, List.map_cons, ih]
      simp [List.getD]
    · rw [if_neg h, if_neg h, ih]
      rfl
theorem rbg_eq (R : RS) (p : Pr) : rbg R p = bgF p R.ls := pls_map p R.ls []
theorem pls_bgF (R : RS) (p : Pr) : (pls p R.ls 0).length = (bgF p R.ls).length := by
  rw [← rbg_eq]
  unfold rbg
  rw [List.length_map]
/-- The k-th place of a link. -/
theorem pls_at (p : Pr) : ∀ (l : List Lt) (o k : Nat) (h : k < (pls p l o).length), ∃ i, ∃ hi : i < l.length, (pls p l o)[k] = o + i ∧ (l[i]).p = p ∧ (bgF p (l.take i)).length = k
  | [], o, k, h => by simp [pls] at h
  | x :: r, o, k, h => by
    by_cases hx : x.p = p
    · have e : pls p (x :: r) o = o :: pls p r (o + 1) := by simp [pls, hx]
      match k with
      | 0 => exact ⟨0, by simp, by simp [e], hx, rfl⟩
      | k + 1 =>
        have h' : k < (pls p r (o + 1)).length := by rw [e] at h; simpa using h
        obtain ⟨i, hi, h1, h2, h3⟩ := pls_at p r (o + 1) k h'
        refine ⟨i + 1, by simpa using hi, ?_, by simpa using h2, ?_⟩
        · simp only [e, List.getElem_cons_succ]
          rw [h1]
          omega
        · rw [List.take_succ_cons, bgF_cons, if_pos hx]
          simp [h3]
    · have e : pls p (x :: r) o = pls p r (o + 1) := by simp [pls, hx]
      have h' : k < (pls p r (o + 1)).length := by rw [e] at h; exact h
      obtain ⟨i, hi, h1, h2, h3⟩ := pls_at p r (o + 1) k h'
      refine ⟨i + 1, by simpa using hi, ?_, by simpa using h2, ?_⟩
      · simp only [e]
        rw [h1]
        omega
      · rw [List.take_succ_cons, bgF_cons, if_neg hx]
        simpa using h3
theorem split_at (l : List Lt) (i : Nat) (hi : i < l.length) : l = l.take i ++ l[i] :: l.drop (i + 1) := by
  rw [List.getElem_cons_drop]
  exact (List.take_append_drop i l).symm
/-- What is left of the bags when the letter in a place is taken out. -/
theorem bgF_cut (p : Pr) (l : List Lt) (i : Nat) (hi : i < l.length) (hp : (l[i]).p = p) :
    bgF p (l.take i ++ l.drop (i + 1)) = (bgF p l).eraseIdx (bgF p (l.take i)).length ∧ (bgF p l).getD (bgF p (l.take i)).length ⟨#[]⟩ = (l[i]).s ∧ ∀ q, q ≠ p → bgF q (l.take i ++ l.drop (i + 1)) = bgF q l := by
  have e := split_at l i hi
  have e1 : ∀ q, bgF q l = bgF q (l.take i) ++ ((if (l[i]).p = q then [(l[i]).s] else []) ++ bgF q (l.drop (i + 1))) := fun q => by
    conv => lhs; rw [e]
    rw [bgF_append, bgF_cons]
  refine ⟨?_, ?_, fun q hq => ?_⟩
  · rw [bgF_append, e1 p, if_pos hp, List.eraseIdx_append_of_length_le (Nat.le_refl _)]
    simp
  · rw [e1 p, if_pos hp]
    simp [List.getD]
  · rw [bgF_append, e1 q, if_neg (fun e => hq (by rw [← e, hp]))]
    rfl
/-- The bags of both nets are alike. -/
structure RelB (S : NS) (R : RS) : Prop where
  len : R.up.length = S.N
  dl : S.dn.length = S.N
  up : ∀ a : Int, 0 ≤ a → a < S.N → upB R a = !isDn S a
  bg : ∀ p, In S.N p → bgF p R.ls = S.bg p
  inn : ∀ x ∈ R.ls, In S.N x.p
section
variable {S : NS} {R : RS}
theorem RelB.cnt (h : RelB S R) {p : Pr} (hp : In S.N p) : (pls p R.ls 0).length = (S.bg p).length := by rw [pls_bgF, h.bg p hp]
theorem RelB.rfe (h : RelB S R) (p : Pr) (k : Int) : rfE R p k = letE S p k := by
  unfold rfE letE
  rw [h.len]
  by_cases hI : In S.N p
  · rw [h.cnt hI]
  · rw [lkB_not hI]
    rfl
theorem RelB.put (h : RelB S R) {p : Pr} (hp : In S.N p) (s : ByteArray) : RelB (S.set p (S.bg p ++ [s])) (R.put ⟨p, s⟩) := by
  refine ⟨h.len, h.dl, h.up, fun q hq => ?_, fun x hx => ?_⟩
  · show bgF q (R.ls ++ [⟨p, s⟩]) = if q = p then S.bg p ++ [s] else S.bg q
    rw [bgF_append, h.bg q hq, bgF_cons]
    by_cases e : q = p
    · subst e; simp [bgF]
    · rw [if_neg e, if_neg (fun e' => e e'.symm)]
      simp [bgF]
  · rcases List.mem_append.1 hx with hx | hx
    · exact h.inn x hx
    · simp at hx
      subst hx
      exact hp
theorem RelB.place (h : RelB S R) {p : Pr} {k : Int} (he : letE S p k = 0) : In S.N p ∧ ∃ hi : rfP R p k < R.ls.length, (R.ls[rfP R p k]).p = p ∧ (bgF p (R.ls.take (rfP R p k))).length = k.toNat ∧ (R.ls[rfP R p k]).s = letS S p k := by
  rw [← h.rfe] at he
  obtain ⟨hI, h0, hk, e, hlt⟩ := rf_place he
  rw [h.len] at hI
  obtain ⟨i, hi, h1, h2, h3⟩ := pls_at p R.ls 0 k.toNat hk
  have e2 : rfP R p k = i := by omega
  have hc := h.cnt hI
  have hcut := (bgF_cut p R.ls i hi h2).2.1
  rw [h3, h.bg p hI] at hcut
  refine ⟨hI, hlt, ?_, ?_, ?_⟩
  · simp only [e2]; exact h2
  · rw [e2]; exact h3
  · simp only [e2]
    rw [← hcut]
    unfold letS
    rw [lkB_in hI, if_pos rfl, if_pos ⟨h0, by omega⟩]
theorem RelB.cut (h : RelB S R) {p : Pr} {k : Int} (he : letE S p k = 0) : RelB (S.set p ((S.bg p).eraseIdx k.toNat)) (R.cut (rfP R p k)) := by
  obtain ⟨hI, hi, h1, h2, h3⟩ := h.place he
  obtain ⟨c1, _, c3⟩ := bgF_cut p R.ls _ hi h1
  refine ⟨h.len, h.dl, h.up, fun q hq => ?_, fun x hx => ?_⟩
  · show bgF q (R.ls.take (rfP R p k) ++ R.ls.drop (rfP R p k + 1)) = if q = p then (S.bg p).eraseIdx k.toNat else S.bg q
    by_cases e : q = p
    · rw [if_pos e, e, c1, h2, h.bg p hI]
    · rw [if_neg e, c3 q e, h.bg q hq]
  · rcases List.mem_append.1 hx with hx | hx
    · exact h.inn x (List.mem_of_mem_take hx)
    · exact h.inn x (List.mem_of_mem_drop hx)
theorem RelB.send (h : RelB S R) (hs : ∀ p, In S.N p → (S.bg p).length ≤ 4096) (p : Pr) (s : ByteArray) : rsE R p s = sdE S p s ∧ RelB (sdS S p s) (rsS R p s) := by
  have hE : rsE R p s = sdE S p s := by
    unfold rsE sdE putE
    rw [h.len]
    by_cases hI : In S.N p
    · rw [lkB_in hI, if_pos rfl, if_pos rfl, h.up p.a hI.1 hI.2.1, h.cnt hI]
      have := hs p hI
      by_cases h1 : 262144 < s.size
      · simp [h1]
      · cases isDn S p.a
        · by_cases h2 : (S.bg p).length = 4096
          · simp [h1, h2]
          · have : ¬ 4096 ≤ (S.bg p).length := by omega
            simp [h1, h2, this]
        · simp [h1]
    · rw [lkB_not hI]
      rfl
  refine ⟨hE, ?_⟩
  unfold rsS
  rw [hE]
  rcases sd_eq S p s with ⟨g, hI, g2⟩ | ⟨g, g2⟩
  · rw [if_pos g, g2]
    exact h.put hI s
  · rw [if_neg g, g2]
    exact h
theorem RelB.lose (h : RelB S R) (p : Pr) (k : Int) : rfE R p k = loE S p k ∧ RelB (loS S p k) (rlS R p k) := by
  refine ⟨h.rfe p k, ?_⟩
  unfold rlS loS
  rw [h.rfe]
  by_cases he : letE S p k = 0
  · rw [if_pos he, if_pos he]
    exact h.cut he
  · rw [if_neg he, if_neg he]
    exact h
theorem RelB.take (h : RelB S R) (p : Pr) (k : Int) : rtE R p k = tkE S p k ∧ rtT R p k = tkT S p k ∧ RelB (tkS S p k) (rtS R p k) := by
  unfold rtT rtS rtE tkE tkT tkS
  rw [h.rfe]
  by_cases he : letE S p k = 0
  · obtain ⟨hI, hi, h1, h2, h3⟩ := h.place he
    rw [if_pos he, if_pos he, if_pos he, if_pos he, h.up p.b hI.2.2.1 hI.2.2.2.1]
    cases isDn S p.b
    · refine ⟨rfl, ?_, ?_⟩
      · simp only [Bool.not_false, if_true, if_false, Bool.false_eq_true]
        rw [← h3]
        simp [List.getD, hi]
      · simp only [Bool.not_false, if_true, if_false, Bool.false_eq_true]
        exact h.cut he
    · exact ⟨rfl, rfl, h⟩
  · rw [if_neg he, if_neg he, if_neg he, if_neg he, if_neg he, if_neg he]
    exact ⟨rfl, rfl, h⟩
theorem RelB.copy (h : RelB S R) (hs : ∀ p, In S.N p → (S.bg p).length ≤ 4096) (p : Pr) (k : Int) : rcE R p k = cpE S p k ∧ RelB (cpS S p k) (rcS R p k) := by
  have hE : rcE R p k = cpE S p k := by
    unfold rcE cpE putE
    rw [h.rfe]
    by_cases he : letE S p k = 0
    · have hI := (h.place he).1
      rw [if_pos he, if_pos he, h.cnt hI]
      have := hs p hI
      by_cases h2 : (S.bg p).length = 4096
      · simp [h2]
      · have : ¬ 4096 ≤ (S.bg p).length := by omega
        simp [h2, this]
    · rw [if_neg he, if_neg he]
  refine ⟨hE, ?_⟩
  unfold rcS
  rw [hE]
  rcases cp_eq S p k with ⟨g, hI, g2⟩ | ⟨g, g2⟩
  · have he : letE S p k = 0 := by
      unfold cpE at g
      by_cases he : letE S p k = 0
      · exact he
      · rw [if_neg he] at g
        exact absurd g he
    obtain ⟨_, hi, h1, h2, h3⟩ := h.place he
    rw [if_pos g, g2]
    have e : R.ls.getD (rfP R p k) lz = ⟨p, letS S p k⟩ := by
      simp only [List.getD, List.getElem?_eq_getElem hi, Option.getD_some]
      rw [← h3]
      exact (fun (x : Lt) (e : x.p = p) => (by cases x; cases e; rfl : x = ⟨p, x.s⟩)) _ h1
    rw [e]
    exact h.put hI _
  · rw [if_neg g, g2]
    exact h
theorem RelB.bagE (h : RelB S R) (p : Pr) : rbE R p = bgE S p ∧ rbL R p = bgL S p := by
  unfold rbE rbL bgE bgL
  rw [h.len]
  by_cases hI : In S.N p
  · rw [lkB_in hI, rbg_eq, h.bg p hI]
    exact ⟨rfl, rfl⟩
  · rw [lkB_not hI]
    exact ⟨rfl, rfl⟩
end
end Go.Proofs.Ytfhlfklgngpklaa
