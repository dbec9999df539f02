/-
  The plain mathematics of an indexed heap: a list of members, of each number its place, and a gap that is moved.
-/
namespace Go.Proofs.YtpmjbeiclmllmaaGreat.N5.Hp
/-- A number with its key. -/
structure M where
  id : Nat
  key : Int
deriving DecidableEq
def M.zero : M := ⟨0, 0⟩
instance : Inhabited M := ⟨M.zero⟩
/-- Does it stand ahead? -/
def ahead (a b : M) : Bool := decide (a.key < b.key ∨ a.key = b.key ∧ a.id < b.id)
def le (a b : M) : Prop := a.key < b.key ∨ a.key = b.key ∧ a.id ≤ b.id
theorem le_t {a b : M} (h : ahead a b = true) : le a b := by unfold ahead at h; unfold le; simp at h; omega
theorem le_f {a b : M} (h : ahead a b = false) : le b a := by unfold ahead at h; unfold le; simp at h; omega
theorem le_rfl (a : M) : le a a := by unfold le; omega
theorem le.trans {a b c : M} (h : le a b) (k : le b c) : le a c := by unfold le at *; omega
/-- The member of a place. -/
def gm (ms : List M) (i : Nat) : M := ms.getD i M.zero
theorem gm_set {ms : List M} {k i : Nat} {x : M} (hk : k < ms.length) : gm (ms.set k x) i = if i = k then x else gm ms i := by
  unfold gm
  simp only [List.getD_eq_getElem?_getD, List.getElem?_set]
  by_cases h : i = k
  · subst h; simp [hk]
  · rw [if_neg (fun e => h e.symm), if_neg h]
theorem gm_self {ms : List M} {k : Nat} {x : M} (hk : k < ms.length) : gm (ms.set k x) k = x := by rw [gm_set hk, if_pos rfl]
theorem gm_ne {ms : List M} {k i : Nat} {x : M} (h : i ≠ k) (hk : k < ms.length) : gm (ms.set k x) i = gm ms i := by rw [gm_set hk, if_neg h]
theorem pl_set {pl : List Int} {k i : Nat} {x : Int} (hk : k < pl.length) : (pl.set k x).getD i 0 = if i = k then x else pl.getD i 0 := by
  simp only [List.getD_eq_getElem?_getD, List.getElem?_set]
  by_cases h : i = k
  · subst h; simp [hk]
  · rw [if_neg (fun e => h e.symm), if_neg h]
/-- A table with another key. -/
def upd (T : Nat → Option Int) (x : Nat) (v : Option Int) : Nat → Option Int := fun y => if y = x then v else T y
theorem upd_self (T : Nat → Option Int) (x : Nat) (v : Option Int) : upd T x v x = v := by simp [upd]
theorem upd_ne (T : Nat → Option Int) {x y : Nat} (v : Option Int) (h : y ≠ x) : upd T x v y = T y := by simp [upd, h]
/-- A whole heap. -/
structure WF (n : Nat) (ms : List M) (pl : List Int) (T : Nat → Option Int) : Prop where
  pn : pl.length = n
  mem : ∀ i, i < ms.length → (gm ms i).id < n ∧ pl.getD (gm ms i).id 0 = (i : Int) + 1 ∧ T (gm ms i).id = some (gm ms i).key
  all : ∀ x, x < n → (pl.getD x 0 = 0 ∧ T x = none) ∨ ∃ i, i < ms.length ∧ pl.getD x 0 = (i : Int) + 1 ∧ (gm ms i).id = x
  out : ∀ x, n ≤ x → T x = none
  ord : ∀ i, 0 < i → i < ms.length → le (gm ms ((i - 1) / 2)) (gm ms i)
/-- A heap with a gap at k, and the member m that is to fill it. -/
structure PG (n : Nat) (ms : List M) (pl : List Int) (T : Nat → Option Int) (k : Nat) (m : M) : Prop where
  pn : pl.length = n
  kl : k < ms.length
  mn : m.id < n
  mt : T m.id = some m.key
  mem : ∀ i, i < ms.length → i ≠ k → (gm ms i).id < n ∧ (gm ms i).id ≠ m.id ∧ pl.getD (gm ms i).id 0 = (i : Int) + 1 ∧ T (gm ms i).id = some (gm ms i).key
  all : ∀ x, x < n → x ≠ m.id → (pl.getD x 0 = 0 ∧ T x = none) ∨ ∃ i, i < ms.length ∧ i ≠ k ∧ pl.getD x 0 = (i : Int) + 1 ∧ (gm ms i).id = x
  out : ∀ x, n ≤ x → T x = none
  o1 : ∀ i, 0 < i → i < ms.length → i ≠ k → (i - 1) / 2 ≠ k → le (gm ms ((i - 1) / 2)) (gm ms i)
  o2 : ∀ i, 0 < i → i < ms.length → (i - 1) / 2 = k → 0 < k → le (gm ms ((k - 1) / 2)) (gm ms i)
def O3 (ms : List M) (k : Nat) (m : M) : Prop := ∀ i, 0 < i → i < ms.length → (i - 1) / 2 = k → le m (gm ms i)
section
variable {n : Nat} {ms : List M} {pl : List Int} {T : Nat → Option Int} {k : Nat} {m : M}
/-- The gap is moved: what is told of numbers and places. -/
theorem PG.move (h : PG n ms pl T k m) {c : Nat} (hc : c < ms.length) (hne : c ≠ k)
    (o1 : ∀ i, 0 < i → i < ms.length → i ≠ c → (i - 1) / 2 ≠ c → le (gm (ms.set k (gm ms c)) ((i - 1) / 2)) (gm (ms.set k (gm ms c)) i))
    (o2 : ∀ i, 0 < i → i < ms.length → (i - 1) / 2 = c → 0 < c → le (gm (ms.set k (gm ms c)) ((c - 1) / 2)) (gm (ms.set k (gm ms c)) i)) :
    PG n (ms.set k (gm ms c)) (pl.set (gm ms c).id ((k : Int) + 1)) T c m := by
  obtain ⟨h1, h2, h3, h4⟩ := h.mem c hc hne
  have hpl : (gm ms c).id < pl.length := by rw [h.pn]; exact h1
  refine ⟨by simp [h.pn], by simpa using hc, h.mn, h.mt, fun i hi hic => ?_, fun x hx hxm => ?_, h.out, fun i a b => o1 i a (by simpa using b), fun i a b => o2 i a (by simpa using b)⟩
  · simp only [List.length_set] at hi
    by_cases hik : i = k
    · subst hik
      rw [gm_self h.kl, pl_set hpl, if_pos rfl]
      exact ⟨h1, h2, rfl, h4⟩
    · rw [gm_ne hik h.kl]
      obtain ⟨g1, g2, g3, g4⟩ := h.mem i hi hik
      refine ⟨g1, g2, ?_, g4⟩
      rw [pl_set hpl, if_neg]
      · exact g3
      · intro e
        rw [e] at g3
        omega
  · simp only [List.length_set]
    rcases h.all x hx hxm with ⟨a, b⟩ | ⟨i, a, b, c', d⟩
    · refine Or.inl ⟨?_, b⟩
      rw [pl_set hpl, if_neg]
      · exact a
      · intro e
        subst e
        omega
    · by_cases hic : i = c
      · subst hic
        refine Or.inr ⟨k, h.kl, fun e => hne e.symm, ?_, ?_⟩
        · rw [pl_set hpl, if_pos d.symm]
        · rw [gm_self h.kl]; exact d
      · refine Or.inr ⟨i, a, hic, ?_, ?_⟩
        · rw [pl_set hpl, if_neg]
          · exact c'
          · intro e
            rw [e] at c'
            omega
        · rw [gm_ne b h.kl]; exact d
/-- One step up. -/
theorem PG.up (h : PG n ms pl T k m) (h3 : O3 ms k m) (hk : 0 < k) (ha : ahead m (gm ms ((k - 1) / 2)) = true) :
    PG n (ms.set k (gm ms ((k - 1) / 2))) (pl.set (gm ms ((k - 1) / 2)).id ((k : Int) + 1)) T ((k - 1) / 2) m ∧ O3 (ms.set k (gm ms ((k - 1) / 2))) ((k - 1) / 2) m := by
  have hkl := h.kl
  have hne : (k - 1) / 2 ≠ k := by omega
  have hP := le_t ha
  constructor
  · refine h.move (by omega) hne (fun i hi0 hi hic hpc => ?_) (fun i hi0 hi hpc hc0 => ?_)
    · by_cases hik : i = k
      · subst hik; exact absurd rfl hpc
      · rw [gm_ne hik hkl]
        by_cases hpk : (i - 1) / 2 = k
        · rw [hpk, gm_self hkl]
          exact h.o2 i hi0 hi hpk hk
        · rw [gm_ne hpk hkl]
          exact h.o1 i hi0 hi hik hpk
    · rw [gm_ne (by omega) hkl]
      have hup : le (gm ms (((k - 1) / 2 - 1) / 2)) (gm ms ((k - 1) / 2)) := h.o1 _ hc0 (by omega) (by omega) (by omega)
      by_cases hik : i = k
      · subst hik; rw [gm_self hkl]; exact hup
      · rw [gm_ne hik hkl]
        refine hup.trans ?_
        have := h.o1 i hi0 hi hik (by omega)
        rw [hpc] at this
        exact this
  · intro i hi0 hi hpc
    simp only [List.length_set] at hi
    by_cases hik : i = k
    · subst hik; rw [gm_self hkl]; exact hP
    · rw [gm_ne hik hkl]
      refine hP.trans ?_
      have := h.o1 i hi0 hi hik (by omega)
      rw [hpc] at this
      exact this
/-- One step down: c is the one of both below that stands ahead. -/
theorem PG.down (h : PG n ms pl T k m) {c : Nat} (hc : c < ms.length) (hc0 : 0 < c) (hck : (c - 1) / 2 = k) (hl : ∀ i, 0 < i → i < ms.length → (i - 1) / 2 = k → le (gm ms c) (gm ms i)) :
    PG n (ms.set k (gm ms c)) (pl.set (gm ms c).id ((k : Int) + 1)) T c m := by
  have hkl := h.kl
  have hne : c ≠ k := by omega
  refine h.move hc hne (fun i hi0 hi hic hpc => ?_) (fun i hi0 hi hpc hc0 => ?_)
  · by_cases hik : i = k
    · subst hik
      rw [gm_self hkl, gm_ne (by omega) hkl]
      exact h.o2 c hc0 hc hck hi0
    · rw [gm_ne hik hkl]
      by_cases hpk : (i - 1) / 2 = k
      · rw [hpk, gm_self hkl]
        exact hl i hi0 hi hpk
      · rw [gm_ne hpk hkl]
        exact h.o1 i hi0 hi hik hpk
  · rw [hck, gm_self hkl, gm_ne (by omega) hkl]
    have := h.o1 i hi0 hi (by omega) (by omega)
    rw [hpc] at this
    exact this
/-- The gap is filled. -/
theorem PG.fill (h : PG n ms pl T k m) (h3 : O3 ms k m) (hk : k = 0 ∨ le (gm ms ((k - 1) / 2)) m) : WF n (ms.set k m) (pl.set m.id ((k : Int) + 1)) T := by
  have hkl := h.kl
  have hpl : m.id < pl.length := by rw [h.pn]; exact h.mn
  refine ⟨by simp [h.pn], fun i hi => ?_, fun x hx => ?_, h.out, fun i hi0 hi => ?_⟩
  · simp only [List.length_set] at hi
    by_cases hik : i = k
    · subst hik
      rw [gm_self hkl, pl_set hpl, if_pos rfl]
      exact ⟨h.mn, rfl, h.mt⟩
    · rw [gm_ne hik hkl]
      obtain ⟨g1, g2, g3, g4⟩ := h.mem i hi hik
      refine ⟨g1, ?_, g4⟩
      rw [pl_set hpl, if_neg g2]
      exact g3
  · simp only [List.length_set]
    by_cases hxm : x = m.id
    · refine Or.inr ⟨k, hkl, ?_, ?_⟩
      · rw [pl_set hpl, if_pos hxm]
      · rw [gm_self hkl]; exact hxm.symm
    · rcases h.all x hx hxm with ⟨a, b⟩ | ⟨i, a, b, c', d⟩
      · refine Or.inl ⟨?_, b⟩
        rw [pl_set hpl, if_neg hxm]
        exact a
      · refine Or.inr ⟨i, a, ?_, ?_⟩
        · rw [pl_set hpl, if_neg hxm]
          exact c'
        · rw [gm_ne b hkl]; exact d
  · simp only [List.length_set] at hi
    by_cases hik : i = k
    · subst hik
      rw [gm_self hkl, gm_ne (by omega) hkl]
      rcases hk with hk | hk
      · omega
      · exact hk
    · rw [gm_ne hik hkl]
      by_cases hpk : (i - 1) / 2 = k
      · rw [hpk, gm_self hkl]
        exact h3 i hi0 hi hpk
      · rw [gm_ne hpk hkl]
        exact h.o1 i hi0 hi hik hpk
/-- A number's place. -/
theorem WF.find (h : WF n ms pl T) {x : Nat} (hx : x < n) : (pl.getD x 0 = 0 ∧ T x = none) ∨ ∃ i, i < ms.length ∧ pl.getD x 0 = (i : Int) + 1 ∧ (gm ms i).id = x ∧ T x = some (gm ms i).key := by
  rcases h.all x hx with a | ⟨i, a, b, c⟩
  · exact Or.inl a
  · exact Or.inr ⟨i, a, b, c, by rw [← c]; exact (h.mem i a).2.2⟩
/-- A key that is lowered. -/
theorem WF.lower (h : WF n ms pl T) {i : Nat} (hi : i < ms.length) {key : Int} (hk : ahead ⟨(gm ms i).id, key⟩ (gm ms i) = true) :
    PG n ms pl (upd T (gm ms i).id (some key)) i ⟨(gm ms i).id, key⟩ ∧ O3 ms i ⟨(gm ms i).id, key⟩ := by
  obtain ⟨g1, g2, g3⟩ := h.mem i hi
  have hne : ∀ j, j < ms.length → j ≠ i → (gm ms j).id ≠ (gm ms i).id := by
    intro j hj hji e
    have := (h.mem j hj).2.1
    rw [e] at this
    omega
  refine ⟨⟨h.pn, hi, g1, upd_self _ _ _, fun j hj hji => ?_, fun x hx hxm => ?_, fun x hx => ?_, fun j h0 hj _ _ => h.ord j h0 hj, fun j h0 hj hp h1 => ?_⟩, fun j h0 hj hp => ?_⟩
  · obtain ⟨a, b, c⟩ := h.mem j hj
    exact ⟨a, hne j hj hji, b, by rw [upd_ne _ _ (hne j hj hji)]; exact c⟩
  · rw [upd_ne _ _ hxm]
    rcases h.all x hx with a | ⟨j, a, b, c⟩
    · exact Or.inl a
    · exact Or.inr ⟨j, a, fun e => hxm (by rw [← c, e]), b, c⟩
  · rw [upd_ne _ _ (by omega)]; exact h.out x hx
  · have a := h.ord i h1 hi
    have b := h.ord j h0 hj
    rw [hp] at b
    exact a.trans b
  · have b := h.ord j h0 hj
    rw [hp] at b
    exact (le_t hk).trans b
theorem gm_app_l {ms : List M} {i : Nat} {x : M} (h : i < ms.length) : gm (ms ++ [x]) i = gm ms i := by
  unfold gm; simp only [List.getD_eq_getElem?_getD]; rw [List.getElem?_append_left h]
theorem gm_app_r {ms : List M} {x : M} : gm (ms ++ [x]) ms.length = x := by
  unfold gm; simp only [List.getD_eq_getElem?_getD]; simp
/-- A number that is new. -/
theorem WF.add (h : WF n ms pl T) {x : Nat} (hx : x < n) (h0 : T x = none) (key : Int) :
    PG n (ms ++ [⟨x, key⟩]) pl (upd T x (some key)) ms.length ⟨x, key⟩ ∧ O3 (ms ++ [⟨x, key⟩]) ms.length ⟨x, key⟩ := by
  have hne : ∀ j, j < ms.length → (gm ms j).id ≠ x := by
    intro j hj e
    have := (h.mem j hj).2.2
    rw [e, h0] at this
    cases this
  refine ⟨⟨h.pn, by simp, hx, upd_self _ _ _, fun j hj hji => ?_, fun y hy hym => ?_, fun y hy => ?_, fun j h0 hj hjk hp => ?_, fun j h0 hj hp h1 => ?_⟩, fun j h0 hj hp => ?_⟩
  · simp at hj
    have hj' : j < ms.length := by omega
    rw [gm_app_l hj']
    obtain ⟨a, b, c⟩ := h.mem j hj'
    exact ⟨a, hne j hj', b, by rw [upd_ne _ _ (hne j hj')]; exact c⟩
  · show (_ ∧ upd T x _ y = none) ∨ _
    rw [upd_ne _ _ hym]
    rcases h.all y hy with a | ⟨j, a, b, c⟩
    · exact Or.inl a
    · exact Or.inr ⟨j, by simp; omega, by omega, b, by rw [gm_app_l a]; exact c⟩
  · rw [upd_ne _ _ (by omega)]; exact h.out y hy
  · simp at hj
    rw [gm_app_l (by omega), gm_app_l (by omega)]
    exact h.ord j h0 (by omega)
  · simp at hj; omega
  · simp at hj; omega
theorem gm_drop {ms : List M} {i : Nat} (h : i < ms.length - 1) : gm ms.dropLast i = gm ms i := by
  unfold gm; simp only [List.getD_eq_getElem?_getD]; rw [List.getElem?_dropLast, if_pos h]
/-- The last place is taken out. -/
theorem WF.takeEnd (h : WF n ms pl T) (hl : 0 < ms.length) : WF n ms.dropLast (pl.set (gm ms (ms.length - 1)).id 0) (upd T (gm ms (ms.length - 1)).id none) := by
  obtain ⟨g1, g2, g3⟩ := h.mem (ms.length - 1) (by omega)
  have hpl : (gm ms (ms.length - 1)).id < pl.length := by rw [h.pn]; exact g1
  have hne : ∀ j, j < ms.length - 1 → (gm ms j).id ≠ (gm ms (ms.length - 1)).id := by
    intro j hj e
    have := (h.mem j (by omega)).2.1
    rw [e] at this
    omega
  refine ⟨by simp [h.pn], fun j hj => ?_, fun x hx => ?_, fun x hx => ?_, fun j h0 hj => ?_⟩
  · simp at hj
    rw [gm_drop hj]
    obtain ⟨a, b, c⟩ := h.mem j (by omega)
    exact ⟨a, by rw [pl_set hpl, if_neg (hne j hj)]; exact b, by rw [upd_ne _ _ (hne j hj)]; exact c⟩
  · by_cases hxm : x = (gm ms (ms.length - 1)).id
    · exact Or.inl ⟨by rw [pl_set hpl, if_pos hxm], by rw [hxm]; exact upd_self _ _ _⟩
    · rw [pl_set hpl, if_neg hxm, upd_ne _ _ hxm]
      rcases h.all x hx with a | ⟨j, a, b, c⟩
      · exact Or.inl a
      · have hj : j < ms.length - 1 := by
          by_cases e : j = ms.length - 1
          · subst e; exact absurd c.symm hxm
          · omega
        exact Or.inr ⟨j, by simpa using hj, b, by rw [gm_drop hj]; exact c⟩
  · by_cases hxm : x = (gm ms (ms.length - 1)).id
    · rw [hxm]; exact upd_self _ _ _
    · rw [upd_ne _ _ hxm]; exact h.out x hx
  · simp at hj
    rw [gm_drop hj, gm_drop (by omega)]
    exact h.ord j h0 (by omega)
/-- A place ahead of the last one is taken out: the last member is to fill it. -/
theorem WF.takeMid (h : WF n ms pl T) {i : Nat} (hi : i < ms.length - 1) : PG n ms.dropLast (pl.set (gm ms i).id 0) (upd T (gm ms i).id none) i (gm ms (ms.length - 1)) := by
  obtain ⟨g1, g2, g3⟩ := h.mem i (by omega)
  obtain ⟨l1, l2, l3⟩ := h.mem (ms.length - 1) (by omega)
  have hpl : (gm ms i).id < pl.length := by rw [h.pn]; exact g1
  have hne : ∀ j j', j < ms.length → j' < ms.length → j ≠ j' → (gm ms j).id ≠ (gm ms j').id := by
    intro j j' hj hj' hd e
    have a := (h.mem j hj).2.1
    have b := (h.mem j' hj').2.1
    rw [e] at a
    omega
  have hlast := hne (ms.length - 1) i (by omega) (by omega) (by omega)
  refine ⟨by simp [h.pn], by simpa using hi, l1, by rw [upd_ne _ _ hlast]; exact l3, fun j hj hji => ?_, fun x hx hxm => ?_, fun x hx => ?_, fun j h0 hj _ _ => ?_, fun j h0 hj hp h1 => ?_⟩
  · simp at hj
    rw [gm_drop hj]
    obtain ⟨a, b, c⟩ := h.mem j (by omega)
    have e := hne j i (by omega) (by omega) hji
    exact ⟨a, hne j _ (by omega) (by omega) (by omega), by rw [pl_set hpl, if_neg e]; exact b, by rw [upd_ne _ _ e]; exact c⟩
  · by_cases hxi : x = (gm ms i).id
    · exact Or.inl ⟨by rw [pl_set hpl, if_pos hxi], by rw [hxi]; exact upd_self _ _ _⟩
    · rw [pl_set hpl, if_neg hxi, upd_ne _ _ hxi]
      rcases h.all x hx with a | ⟨j, a, b, c⟩
      · exact Or.inl a
      · have hj : j < ms.length - 1 := by
          by_cases e : j = ms.length - 1
          · subst e; exact absurd c.symm hxm
          · omega
        exact Or.inr ⟨j, by simpa using hj, fun e => hxi (by rw [← c, e]), b, by rw [gm_drop hj]; exact c⟩
  · by_cases hxi : x = (gm ms i).id
    · rw [hxi]; exact upd_self _ _ _
    · rw [upd_ne _ _ hxi]; exact h.out x hx
  · simp at hj
    rw [gm_drop hj, gm_drop (by omega)]
    exact h.ord j h0 (by omega)
  · simp at hj
    rw [gm_drop hj, gm_drop (by omega)]
    have a := h.ord i h1 (by omega)
    have b := h.ord j h0 (by omega)
    rw [hp] at b
    exact a.trans b
/-- The first place is ahead of all. -/
theorem WF.least (h : WF n ms pl T) : ∀ i, i < ms.length → le (gm ms 0) (gm ms i) := by
  intro i
  induction i using Nat.strongRecOn with
  | ind i ih =>
    intro hi
    by_cases h0 : i = 0
    · subst h0; exact le_rfl _
    · exact (ih ((i - 1) / 2) (by omega) (by omega)).trans (h.ord i (by omega) hi)
theorem WF.top (h : WF n ms pl T) (hl : 0 < ms.length) : T (gm ms 0).id = some (gm ms 0).key ∧ (gm ms 0).id < n ∧ ∀ x key, T x = some key → (gm ms 0).key < key ∨ (gm ms 0).key = key ∧ (gm ms 0).id ≤ x := by
  refine ⟨(h.mem 0 hl).2.2, (h.mem 0 hl).1, fun x key hx => ?_⟩
  by_cases hn : x < n
  · rcases h.find hn with ⟨_, a⟩ | ⟨i, a, _, c, d⟩
    · rw [a] at hx; cases hx
    · rw [d] at hx
      have := h.least i a
      unfold le at this
      rw [c, Option.some.inj hx] at this
      exact this
  · rw [h.out x (by omega)] at hx; cases hx
/-- How many numbers have a key. -/
def cnt (T : Nat → Option Int) (n : Nat) : Nat := ((List.range n).filter (fun x => (T x).isSome)).length
theorem gm_get {ms : List M} {i : Nat} (h : i < ms.length) : gm ms i = ms[i] := by unfold gm; simp [List.getD_eq_getElem?_getD, h]
theorem WF.cnt (h : WF n ms pl T) : cnt T n = ms.length := by
  have e : ((List.range n).filter (fun x => (T x).isSome)).Perm (ms.map M.id) := by
    rw [List.perm_ext_iff_of_nodup]
    · intro x
      simp only [List.mem_filter, List.mem_range, List.mem_map]
      constructor
      · rintro ⟨hx, hs⟩
        rcases h.find hx with ⟨_, a⟩ | ⟨i, a, _, c, _⟩
        · rw [a] at hs; cases hs
        · exact ⟨gm ms i, by rw [gm_get a]; exact List.getElem_mem a, c⟩
      · rintro ⟨m, hm, rfl⟩
        obtain ⟨i, hi, rfl⟩ := List.mem_iff_getElem.1 hm
        obtain ⟨a, _, c⟩ := h.mem i hi
        rw [gm_get hi] at a c
        exact ⟨a, by rw [c]; rfl⟩
    · exact List.nodup_range.filter _
    · rw [List.nodup_iff_pairwise_ne, List.pairwise_iff_getElem]
      intro i j hi hj hij
      simp at hi hj
      simp only [List.getElem_map]
      intro e'
      have a := (h.mem i hi).2.1
      have b := (h.mem j hj).2.1
      rw [gm_get hi] at a
      rw [gm_get hj, ← e'] at b
      omega
  have := e.length_eq
  simpa [YtpmjbeiclmllmaaGreat.N5.Hp.cnt] using this
theorem WF.empty (n : Nat) : WF n [] (List.replicate n 0) (fun _ => none) :=
  ⟨by simp, fun i hi => absurd hi (by simp), fun x hx => Or.inl ⟨by simp [List.getD_eq_getElem?_getD, hx], rfl⟩, fun _ _ => rfl, fun i _ hi => absurd hi (by simp)⟩
end
end Go.Proofs.YtpmjbeiclmllmaaGreat.N5.Hp
