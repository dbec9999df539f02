/-
  Ways that are filled, by number alone: what holds while block goes on.
-/
import Derived.Test.YtpgadcacimjlaabFSrMath
namespace Go.Proofs.Ytpgadcacimjlaab.F6
open Go.RowKit
theorem once_of : ∀ {p : List Nat}, (∀ i j, i < j → j < p.length → p.getD i 0 / 2 ≠ p.getD j 0 / 2) → Once p
  | [], _ => trivial
  | k :: p, h => by
    refine ⟨fun j hj e => ?_, once_of (fun a b hab hb => by
      have := h (a + 1) (b + 1) (by omega) (by simp; omega)
      simpa using this)⟩
    obtain ⟨i, hi, hij⟩ := List.getElem_of_mem hj
    have h2 := h 0 (i + 1) (by omega) (by simp; omega)
    apply h2
    simp [List.getD, List.getElem?_eq_getElem hi, hij, e]
theorem half_same (E : List Ed) {k j : Nat} (h : k / 2 = j / 2) : frm E k = frm E j ∨ (frm E k = tto E j ∧ tto E k = frm E j) := by
  unfold frm tto
  by_cases h1 : k % 2 = 0
  · by_cases h2 : j % 2 = 0
    · left; rw [if_pos h1, if_pos h2, h]
    · right; rw [if_pos h1, if_neg h2, if_pos h1, if_neg h2, h]; exact ⟨rfl, rfl⟩
  · by_cases h2 : j % 2 = 0
    · right; rw [if_neg h1, if_pos h2, if_neg h1, if_pos h2, h]; exact ⟨rfl, rfl⟩
    · left; rw [if_neg h1, if_neg h2, h]
def updN (F : Nat → Nat) (x d : Nat) : Nat → Nat := fun y => if y = x then d else F y
theorem updN_self (F : Nat → Nat) (x d : Nat) : updN F x d x = d := by simp [updN]
theorem updN_ne (F : Nat → Nat) {x y : Nat} (d : Nat) (h : y ≠ x) : updN F x d y = F y := by simp [updN, h]
def sumO (F : Nat → Nat) : Nat → Nat
  | 0 => 0
  | n + 1 => sumO F n + F n
theorem sumO_same {F : Nat → Nat} {v d : Nat} : ∀ n, n ≤ v → sumO (updN F v d) n = sumO F n
  | 0, _ => rfl
  | n + 1, h => by simp only [sumO, sumO_same n (by omega : n ≤ v), updN_ne F d (show n ≠ v by omega)]
theorem sumO_upd {F : Nat → Nat} {v d : Nat} (hd : d < F v) : ∀ n, v < n → sumO (updN F v d) n + 1 ≤ sumO F n
  | 0, hv => absurd hv (Nat.not_lt_zero _)
  | n + 1, hv => by
    by_cases e : v = n
    · subst e
      simp only [sumO, sumO_same v (Nat.le_refl v), updN_self]
      omega
    · have := sumO_upd hd n (by omega)
      simp only [sumO, updN_ne F d (fun h : n = v => e h.symm)]
      omega
/-- What block has done so far: the flow, the open steps, the way, its last node, what was added. -/
structure Bk (n m : Nat) (E : List Ed) (gr : Int) (s t : Nat) (rk fl0 : Nat → Int) (fl : Nat → Int) (ob : Nat → Nat) (p : List Nat) (v : Nat) (tot : Int) : Prop where
  flow : Flow n E s t fl
  nt : net E fl s E.length = net E fl0 s E.length + tot
  t0 : 0 ≤ tot
  chn : Chn E s p v
  vn : v < n
  rkv : rk v = p.length
  rki : ∀ i, i < p.length → rk (frm E (p.getD i 0)) = i ∧ rk (tto E (p.getD i 0)) = i + 1
  lim : ∀ k, k ∈ p → k < 2 * m ∧ gr ≤ rm E fl k ∧ lst E (frm E k) (ob (frm E k)) = k ∧ frm E k ≠ t
  obm : ∀ u, ob u ≤ 2 * m
  dead : tot = 0 → ∀ k, k < 2 * m → frm E k ≠ t → ob (frm E k) ≤ k → gr ≤ rm E fl0 k → rk (tto E k) = rk (frm E k) + 1 → lst E (tto E k) (ob (tto E k)) = -1 ∧ tto E k ≠ t
  same : tot = 0 → ∀ k, rm E fl k = rm E fl0 k
section
variable {n m : Nat} {E : List Ed} {gr : Int} {s t : Nat} {rk fl0 fl : Nat → Int} {ob : Nat → Nat} {p : List Nat} {v : Nat} {tot : Int}
theorem Bk.start (hf : Flow n E s t fl0) (hs : s < n) (h0 : rk s = 0) : Bk n m E gr s t rk fl0 fl0 (fun _ => 2 * m) [] s 0 :=
  ⟨hf, by omega, Int.le_refl _, Chn.nil, hs, by simpa using h0, fun i h => by simp at h, fun k h => by simp at h, fun _ => Nat.le_refl _, fun _ k h _ h2 => by omega, fun _ _ => rfl⟩
theorem Bk.mem_rk (h : Bk n m E gr s t rk fl0 fl ob p v tot) {k : Nat} (hk : k ∈ p) : 0 ≤ rk (frm E k) ∧ rk (frm E k) < p.length := by
  obtain ⟨i, hi, e⟩ := List.getElem_of_mem hk
  have := (h.rki i hi).1
  rw [show p.getD i 0 = k by simp [List.getD, List.getElem?_eq_getElem hi, e]] at this
  omega
theorem Bk.once (h : Bk n m E gr s t rk fl0 fl ob p v tot) : Once p := once_of (fun i j hij hj e => by
  have h1 := h.rki i (by omega)
  have h2 := h.rki j hj
  rcases half_same E e with h3 | ⟨h3, h4⟩
  · rw [h3] at h1; omega
  · rw [h3, h4] at h1; omega)
theorem Bk.mem_ne (h : Bk n m E gr s t rk fl0 fl ob p v tot) {k : Nat} (hk : k ∈ p) : frm E k ≠ v := fun e => by
  have h1 := h.mem_rk hk
  have h2 := h.rkv
  rw [e] at h1; omega
/-- A step that does not serve is passed by. -/
theorem Bk.skip (h : Bk n m E gr s t rk fl0 fl ob p v tot) {k : Nat} (hk : k < ob v) (hl : lst E v (ob v) = k) (hf : frm E k = v) (hb : ∀ j, k < j → j < ob v → frm E j ≠ v) (hno : gr ≤ rm E fl k → rk (tto E k) ≠ rk v + 1) :
    Bk n m E gr s t rk fl0 fl (updN ob v k) p v tot := by
  refine ⟨h.flow, h.nt, h.t0, h.chn, h.vn, h.rkv, h.rki, fun j hj => ?_, fun u => ?_, fun h0 j hj hft hob hg hr => ?_, h.same⟩
  · have := h.lim j hj
    rw [updN_ne _ _ (h.mem_ne hj)]
    exact this
  · by_cases e : u = v
    · subst e; rw [updN_self]; have := h.obm u; omega
    · rw [updN_ne _ _ e]; exact h.obm u
  · have hold : ob (frm E j) ≤ j := by
      by_cases e : frm E j = v
      · rw [e, updN_self] at hob
        rw [e]
        by_cases e2 : j = k
        · subst e2
          exact absurd (by rw [hr, e]) (hno (by rw [h.same h0]; exact hg))
        · by_cases e3 : ob v ≤ j
          · exact e3
          · exact absurd e (hb j (by omega) (by omega))
      · rw [updN_ne _ _ e] at hob; exact hob
    have hd := h.dead h0 j hj hft hold hg hr
    have hne : tto E j ≠ v := fun e => by rw [e, hl] at hd; omega
    rw [updN_ne _ _ hne]
    exact hd
/-- A step that serves. -/
theorem Bk.go (h : Bk n m E gr s t rk fl0 fl ob p v tot) {k : Nat} (hk : k < ob v) (hl : lst E v (ob v) = k) (hf : frm E k = v) (hg : gr ≤ rm E fl k) (hr : rk (tto E k) = rk v + 1) (hvt : v ≠ t) (hn : tto E k < n) :
    Bk n m E gr s t rk fl0 fl ob (p ++ [k]) (tto E k) tot := by
  have hv := h.rkv
  refine ⟨h.flow, h.nt, h.t0, ?_, hn, by rw [hr, hv]; simp, fun i hi => ?_, fun j hj => ?_, h.obm, h.dead, h.same⟩
  · have := h.chn
    rw [← hf] at this
    exact Chn.snoc this
  · by_cases e : i < p.length
    · have e1 : (p ++ [k]).getD i 0 = p.getD i 0 := by simp [List.getD, List.getElem?_append_left e]
      rw [e1]; exact h.rki i e
    · have e1 : i = p.length := by simp at hi; omega
      have e2 : (p ++ [k]).getD i 0 = k := by subst e1; simp [List.getD]
      rw [e2, hf, hr, hv, e1]
      exact ⟨rfl, rfl⟩
  · rcases List.mem_append.mp hj with h1 | h1
    · exact h.lim j h1
    · have : j = k := by simpa using h1
      subst this
      exact ⟨by have := h.obm v; omega, hg, by rw [hf]; exact hl, by rw [hf]; exact hvt⟩
theorem chn_snoc {q : List Nat} {k u : Nat} (h : Chn E s (q ++ [k]) u) : Chn E s q (frm E k) ∧ u = tto E k := by
  generalize hp : q ++ [k] = r at h
  cases h with
  | nil => simp at hp
  | @snoc p2 k2 h2 =>
    have := List.append_inj' hp rfl
    obtain ⟨rfl, e⟩ := this
    have e2 : k = k2 := by simpa using e
    subst e2
    exact ⟨h2, rfl⟩
/-- Nothing goes on: the last step is done with. -/
theorem Bk.back {q : List Nat} {k : Nat} (h : Bk n m E gr s t rk fl0 fl ob (q ++ [k]) v tot) (hd : lst E v (ob v) = -1) (hvt : v ≠ t) (hn : frm E k < n) :
    Bk n m E gr s t rk fl0 fl (updN ob (frm E k) k) q (frm E k) tot ∧ k < ob (frm E k) ∧ k < 2 * m := by
  obtain ⟨hc, hv⟩ := chn_snoc h.chn
  have hmem : k ∈ q ++ [k] := by simp
  have hlk := h.lim k hmem
  have hrk : rk (frm E k) = q.length ∧ rk (tto E k) = q.length + 1 := by
    have := h.rki q.length (by simp)
    rw [show (q ++ [k]).getD q.length 0 = k by simp [List.getD]] at this
    exact this
  have hko : k < ob (frm E k) := by
    have := lst_lt E (frm E k) (ob (frm E k))
    rw [hlk.2.2.1] at this
    omega
  have hbet : ∀ j, k < j → j < ob (frm E k) → frm E j ≠ frm E k := by
    rcases lst_cases E (frm E k) (ob (frm E k)) with ⟨h1, _⟩ | ⟨k2, h1, h2, h3, h4⟩
    · rw [hlk.2.2.1] at h1; omega
    · rw [hlk.2.2.1] at h2
      have : k2 = k := by omega
      subst this
      exact h4
  have hrki : ∀ i, i < q.length → rk (frm E (q.getD i 0)) = i ∧ rk (tto E (q.getD i 0)) = i + 1 := fun i hi => by
    have := h.rki i (by simp; omega)
    rw [show (q ++ [k]).getD i 0 = q.getD i 0 by simp [List.getD, List.getElem?_append_left hi]] at this
    exact this
  have hqne : ∀ j, j ∈ q → frm E j ≠ frm E k := fun j hj e => by
    obtain ⟨i, hi, e1⟩ := List.getElem_of_mem hj
    have := (hrki i hi).1
    rw [show q.getD i 0 = j by simp [List.getD, List.getElem?_eq_getElem hi, e1], e, hrk.1] at this
    omega
  refine ⟨⟨h.flow, h.nt, h.t0, hc, hn, hrk.1, hrki, fun j hj => ?_, fun u => ?_, fun h0 j hj hft hob hg hr => ?_, h.same⟩, hko, hlk.1⟩
  · have := h.lim j (by simp [hj])
    rw [updN_ne _ _ (hqne j hj)]
    exact this
  · by_cases e : u = frm E k
    · subst e; rw [updN_self]; have := h.obm (frm E k); omega
    · rw [updN_ne _ _ e]; exact h.obm u
  · have key : lst E (tto E j) (ob (tto E j)) = -1 ∧ tto E j ≠ t := by
      by_cases e : frm E j = frm E k
      · rw [e, updN_self] at hob
        by_cases e2 : j = k
        · subst e2
          rw [← hv]
          exact ⟨hd, hvt⟩
        · by_cases e3 : ob (frm E k) ≤ j
          · exact h.dead h0 j hj hft (by rw [e]; exact e3) hg hr
          · exact absurd e (hbet j (by omega) (by omega))
      · rw [updN_ne _ _ e] at hob
        exact h.dead h0 j hj hft hob hg hr
    have hne : tto E j ≠ frm E k := fun e => by rw [e, hlk.2.2.1] at key; omega
    rw [updN_ne _ _ hne]
    exact key
theorem chn_take : ∀ {q : List Nat} {u : Nat}, Chn E s q u → ∀ j, j ≤ q.length → ∃ y, Chn E s (q.take j) y ∧ (j < q.length → y = frm E (q.getD j 0)) ∧ (j = q.length → y = u) := by
  intro q u h
  induction h with
  | nil => intro j hj; exact ⟨s, by simpa using Chn.nil, fun h => by simp at h, fun _ => rfl⟩
  | @snoc p k hc ih =>
    intro j hj
    by_cases e : j = p.length + 1
    · subst e
      refine ⟨tto E k, ?_, fun h => by simp at h, fun _ => rfl⟩
      rw [List.take_of_length_le (by simp)]
      exact Chn.snoc hc
    · have hjp : j ≤ p.length := by simp at hj; omega
      obtain ⟨y, h1, h2, h3⟩ := ih j hjp
      refine ⟨y, ?_, fun _ => ?_, fun h => by simp at h; omega⟩
      · rw [List.take_append_of_le_length hjp]; exact h1
      · by_cases e2 : j < p.length
        · rw [h2 e2]; simp [List.getD, List.getElem?_append_left e2]
        · have : j = p.length := by omega
          subst this
          rw [h3 rfl]; simp [List.getD]
/-- So much more flows along the way; the steps that are kept have room still. -/
theorem Bk.push (h : Bk n m E gr s t rk fl0 fl ob p t tot) (hm : E.length = m) (hE : ∀ k, k < 2 * m → frm E k < n ∧ tto E k < n) (hst : s ≠ t) {x : Int} (hx : 0 < x) (hr : ∀ k, k ∈ p → x ≤ rm E fl k) {kp : Nat} (hkp : kp ≤ p.length) (hk : ∀ i, i < kp → gr ≤ rm E (pushAll fl x p) (p.getD i 0)) :
    ∃ y, Bk n m E gr s t rk fl0 (pushAll fl x p) ob (p.take kp) y (tot + x) := by
  have hp := h.flow.push (by omega) h.chn hst h.once (fun k hk => by have := (h.lim k hk).1; omega) hr
  obtain ⟨y, h1, h2, h3⟩ := chn_take h.chn kp hkp
  have ht0 := h.t0
  have hpt : p.getD 0 0 = p.getD 0 0 := rfl
  have hlen : (p.take kp).length = kp := by rw [List.length_take]; omega
  have hget : ∀ i, i < kp → (p.take kp).getD i 0 = p.getD i 0 := fun i hi => by simp [List.getD, hi]
  refine ⟨y, ⟨hp.1, by rw [hp.2, h.nt]; omega, by omega, h1, ?_, ?_, fun i hi => ?_, fun k hk2 => ?_, h.obm, fun h0 => by omega, fun h0 => by omega⟩⟩
  · by_cases e : kp < p.length
    · rw [h2 e]
      exact (hE _ (h.lim _ (by simp [List.getD, List.getElem?_eq_getElem e])).1).1
    · rw [h3 (by omega)]; exact h.vn
  · rw [hlen]
    by_cases e : kp < p.length
    · rw [h2 e]; exact (h.rki kp e).1
    · have e2 : kp = p.length := by omega
      rw [h3 e2, e2]; exact h.rkv
  · rw [hlen] at hi
    rw [hget i hi]
    exact h.rki i (by omega)
  · obtain ⟨i, hi, e⟩ := List.getElem_of_mem hk2
    have hi2 : i < kp := by rw [hlen] at hi; exact hi
    have e2 : p.getD i 0 = k := by
      rw [← hget i hi2]
      simp [List.getD, List.getElem?_eq_getElem hi, e]
    have hl := h.lim k (List.mem_of_mem_take hk2)
    have hg := hk i hi2
    rw [e2] at hg
    exact ⟨hl.1, hg, hl.2.2⟩
/-- If the search came to t then something was added. -/
theorem Bk.some (h : Bk n m E gr s t rk fl0 fl ob [] s tot) (hR : Rk n m E fl0 gr s t rk) (hE : ∀ k, k < 2 * m → frm E k < n ∧ tto E k < n) (htn : t < n) (ht : rk t ≠ -1) (hst : s ≠ t) (hd : lst E s (ob s) = -1) : 1 ≤ tot := by
  have h0 := h.t0
  by_cases e : tot = 0
  · exfalso
    have key : ∀ (d : Nat) (u : Nat), u < n → rk u ≠ -1 → rk u ≤ d → u ≠ t ∧ lst E u (ob u) = -1 := by
      intro d
      induction d with
      | zero =>
        intro u hu hr hd2
        rcases hR.par u hu hr with rfl | ⟨k, _, _, _, h4, h5⟩
        · exact ⟨hst, hd⟩
        · omega
      | succ d ih =>
        intro u hu hr hd2
        rcases hR.par u hu hr with rfl | ⟨k, h1, h2, h3, h4, h5⟩
        · exact ⟨hst, hd⟩
        · obtain ⟨i1, i2⟩ := ih (frm E k) (hE k h1).1 (by omega) (by omega)
          have hob : ob (frm E k) ≤ k := by
            rcases lst_cases E (frm E k) (ob (frm E k)) with ⟨_, j2⟩ | ⟨k2, _, j2, _⟩
            · by_cases e3 : ob (frm E k) ≤ k
              · exact e3
              · exact absurd rfl (j2 k (by omega))
            · rw [i2] at j2; omega
          have := h.dead e k h1 i1 hob h3 (by rw [h2]; exact h5)
          rw [h2] at this
          exact ⟨this.2, this.1⟩
    rcases hR.pos t htn with h1 | h1
    · exact ht h1
    · exact (key (rk t).toNat t htn ht (by omega)).1 rfl
  · omega
end
end Go.Proofs.Ytpgadcacimjlaab.F6
