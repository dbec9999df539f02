/-
  The mathematics of a disk: files by names, rising; what the calls tell, and what they make of it.
-/
import Derived.Test.YtlbkmhlpgpfafaaChecked
import Derived.WideAt
import Derived.WideShapes
import Derived.Maps.Keyed
namespace Go.Proofs.Ytlbkmhlpgpfafaa
/-- Bytes of one name ahead of another's. -/
abbrev bb : List UInt8 → List UInt8 → Bool := bytesBefore
theorem bb_irrefl (a : List UInt8) : bb a a = false := Go.WideAt.bytes_irrefl a
theorem bb_trans {a b c : List UInt8} (h : bb a b = true) (k : bb b c = true) : bb a c = true := Go.WideShapes.bytes_trans a b c h k
theorem bb_total {a b : List UInt8} (h : a ≠ b) : bb a b = true ∨ bb b a = true := Go.WideAt.bytes_total a b h
theorem bb_ne {a b : List UInt8} (h : bb a b = true) : a ≠ b := by
  rintro rfl
  rw [bb_irrefl] at h
  cases h
theorem bb_lt (a b : List UInt8) : bb a b = decide (a < b) := by
  induction a generalizing b with
  | nil => cases b with
    | nil => rfl
    | cons y s => simp [bytesBefore]
  | cons x r ih => cases b with
    | nil => simp [bytesBefore]
    | cons y s =>
      unfold bytesBefore
      rw [show bytesBefore r s = decide (r < s) from ih s]
      rw [Bool.eq_iff_iff]
      simp [List.cons_lt_cons_iff]
theorem bb_le {a b : List UInt8} (h : bb a b = true) : a ≤ b := by
  rw [bb_lt] at h
  exact List.le_of_lt (of_decide_eq_true h)
section
variable {α β : Type} {key : α → List UInt8} {key' : β → List UInt8}
/-- Names rise. -/
def Srt (key : α → List UInt8) (l : List α) : Prop := l.Pairwise (fun a b => bb (key a) (key b) = true)
def insK (key : α → List UInt8) (x : α) : List α → List α
  | [] => [x]
  | y :: r => if bb (key x) (key y) then x :: y :: r else y :: insK key x r
def delK (key : α → List UInt8) (n : List UInt8) (l : List α) : List α := l.filter (fun f => !decide (key f = n))
def setK (key : α → List UInt8) (n : List UInt8) (g : α → α) (l : List α) : List α := l.map (fun f => if key f = n then g f else f)
def fndK (key : α → List UInt8) (n : List UInt8) (l : List α) : Option α := l.find? (fun f => decide (key f = n))
def putK (key : α → List UInt8) (x : α) (l : List α) : List α := insK key x (delK key (key x) l)
theorem insK_map (g : α → β) (hg : ∀ a, key' (g a) = key a) (x : α) (l : List α) : (insK key x l).map g = insK key' (g x) (l.map g) := by
  induction l with
  | nil => rfl
  | cons y r ih =>
    simp only [insK, List.map_cons, hg]
    split
    · rfl
    · rw [List.map_cons, ih]
theorem delK_map (g : α → β) (hg : ∀ a, key' (g a) = key a) (n : List UInt8) (l : List α) : (delK key n l).map g = delK key' n (l.map g) := by
  unfold delK
  rw [List.filter_map]
  congr 1
  apply List.filter_congr
  intro a _
  simp [hg]
theorem setK_map (g : α → β) (hg : ∀ a, key' (g a) = key a) (n : List UInt8) (u : α → α) (u' : β → β) (hu : ∀ a, g (u a) = u' (g a)) (l : List α) : (setK key n u l).map g = setK key' n u' (l.map g) := by
  unfold setK
  rw [List.map_map, List.map_map]
  apply List.map_congr_left
  intro a _
  simp only [Function.comp, hg]
  split
  · exact hu a
  · rfl
theorem fndK_map (g : α → β) (hg : ∀ a, key' (g a) = key a) (n : List UInt8) (l : List α) : fndK key' n (l.map g) = (fndK key n l).map g := by
  unfold fndK
  rw [List.find?_map]
  congr 2
  funext a
  simp [hg]
theorem putK_map (g : α → β) (hg : ∀ a, key' (g a) = key a) (x : α) (l : List α) : (putK key x l).map g = putK key' (g x) (l.map g) := by
  unfold putK
  rw [insK_map g hg, delK_map g hg, hg]
theorem fndK_some {n : List UInt8} {l : List α} {f : α} (h : fndK key n l = some f) : f ∈ l ∧ key f = n := by
  unfold fndK at h
  exact ⟨List.mem_of_find?_eq_some h, by simpa using List.find?_some h⟩
theorem fndK_none {n : List UInt8} {l : List α} (h : fndK key n l = none) : ∀ f ∈ l, key f ≠ n := by
  unfold fndK at h
  intro f hf e
  have := List.find?_eq_none.1 h f hf
  simp [e] at this
theorem fndK_none_iff {n : List UInt8} {l : List α} : fndK key n l = none ↔ ∀ f ∈ l, key f ≠ n := by
  refine ⟨fndK_none, fun h => ?_⟩
  unfold fndK
  rw [List.find?_eq_none]
  intro f hf
  simp [h f hf]
theorem fndK_mem {l : List α} (s : Srt key l) {f : α} (hf : f ∈ l) : fndK key (key f) l = some f := by
  induction l with
  | nil => cases hf
  | cons y r ih =>
    obtain ⟨h1, h2⟩ := List.pairwise_cons.1 s
    unfold fndK
    rcases List.mem_cons.1 hf with rfl | hf
    · simp
    · have : key y ≠ key f := bb_ne (h1 f hf)
      rw [List.find?_cons_of_neg (by simpa using this)]
      exact ih h2 hf
theorem Srt.uniq {l : List α} (s : Srt key l) {f g : α} (hf : f ∈ l) (hg : g ∈ l) (h : key f = key g) : f = g := by
  have a := fndK_mem s hf
  rw [h, fndK_mem s hg] at a
  exact (Option.some.inj a).symm
theorem mem_insK {x y : α} {l : List α} : y ∈ insK key x l ↔ y = x ∨ y ∈ l := by
  induction l with
  | nil => simp [insK]
  | cons z r ih =>
    unfold insK
    split
    · simp
    · rw [List.mem_cons, ih, List.mem_cons]
      constructor
      · rintro (h | h | h)
        · exact Or.inr (Or.inl h)
        · exact Or.inl h
        · exact Or.inr (Or.inr h)
      · rintro (h | h | h)
        · exact Or.inr (Or.inl h)
        · exact Or.inl h
        · exact Or.inr (Or.inr h)
theorem mem_delK {y : α} {n : List UInt8} {l : List α} : y ∈ delK key n l ↔ y ∈ l ∧ key y ≠ n := by
  unfold delK
  rw [List.mem_filter]
  simp
theorem mem_putK {x y : α} {l : List α} : y ∈ putK key x l ↔ y = x ∨ (y ∈ l ∧ key y ≠ key x) := by
  unfold putK
  rw [mem_insK, mem_delK]
theorem srt_ins {x : α} {l : List α} (s : Srt key l) (h : ∀ f ∈ l, key f ≠ key x) : Srt key (insK key x l) := by
  induction l with
  | nil => simp [insK, Srt]
  | cons y r ih =>
    obtain ⟨h1, h2⟩ := List.pairwise_cons.1 s
    unfold insK
    split
    · rename_i hb
      refine List.pairwise_cons.2 ⟨fun q hq => ?_, s⟩
      rcases List.mem_cons.1 hq with rfl | hq
      · exact hb
      · exact bb_trans hb (h1 q hq)
    · rename_i hb
      have hyx : bb (key y) (key x) = true := by
        rcases bb_total (h y (by simp)) with h' | h'
        · exact h'
        · exact absurd h' hb
      refine List.pairwise_cons.2 ⟨fun q hq => ?_, ih h2 (fun f hf => h f (by simp [hf]))⟩
      rcases mem_insK.1 hq with rfl | hq
      · exact hyx
      · exact h1 q hq
theorem srt_del {n : List UInt8} {l : List α} (s : Srt key l) : Srt key (delK key n l) := List.Pairwise.filter _ s
theorem srt_put {x : α} {l : List α} (s : Srt key l) : Srt key (putK key x l) := srt_ins (srt_del s) (fun _ hf => (mem_delK.1 hf).2)
theorem srt_set {n : List UInt8} {g : α → α} {l : List α} (s : Srt key l) (hg : ∀ f, key (g f) = key f) : Srt key (setK key n g l) := by
  unfold setK Srt
  rw [List.pairwise_map]
  refine List.Pairwise.imp ?_ s
  intro a b h
  have e : ∀ c : α, key (if key c = n then g c else c) = key c := by
    intro c
    split
    · exact hg c
    · rfl
  rw [e, e]
  exact h
theorem mem_setK {n : List UInt8} {g : α → α} {l : List α} {y : α} (h : y ∈ setK key n g l) : (∃ f ∈ l, key f = n ∧ y = g f) ∨ (y ∈ l ∧ key y ≠ n) := by
  unfold setK at h
  obtain ⟨f, hf, e⟩ := List.mem_map.1 h
  by_cases hk : key f = n
  · rw [if_pos hk] at e
    exact Or.inl ⟨f, hf, hk, e.symm⟩
  · rw [if_neg hk] at e
    subst e
    exact Or.inr ⟨hf, hk⟩
theorem fnd_put {x : α} {l : List α} (n : List UInt8) (s : Srt key l) : fndK key n (putK key x l) = if key x = n then some x else fndK key n l := by
  split
  · rename_i h
    subst h
    exact fndK_mem (srt_put s) (mem_putK.2 (Or.inl rfl))
  · rename_i h
    cases e : fndK key n l with
    | none =>
      rw [fndK_none_iff]
      intro f hf
      rcases mem_putK.1 hf with rfl | ⟨hf, _⟩
      · exact h
      · exact fndK_none e f hf
    | some f =>
      obtain ⟨h1, rfl⟩ := fndK_some e
      exact fndK_mem (srt_put s) (mem_putK.2 (Or.inr ⟨h1, fun e => h e.symm⟩))
theorem fnd_del {n m : List UInt8} {l : List α} (s : Srt key l) : fndK key n (delK key m l) = if m = n then none else fndK key n l := by
  split
  · rename_i h
    subst h
    rw [fndK_none_iff]
    exact fun f hf => (mem_delK.1 hf).2
  · rename_i h
    cases e : fndK key n l with
    | none =>
      rw [fndK_none_iff]
      exact fun f hf => fndK_none e f (mem_delK.1 hf).1
    | some f =>
      obtain ⟨h1, rfl⟩ := fndK_some e
      exact fndK_mem (srt_del s) (mem_delK.2 ⟨h1, fun e => h e.symm⟩)
theorem fnd_set {n m : List UInt8} {g : α → α} {l : List α} (hg : ∀ f, key (g f) = key f) : fndK key n (setK key m g l) = if m = n then (fndK key n l).map g else fndK key n l := by
  have e : ∀ c : α, key (if key c = m then g c else c) = key c := by
    intro c
    split
    · exact hg c
    · rfl
  unfold setK fndK
  rw [List.find?_map]
  have e2 : ((fun f => decide (key f = n)) ∘ fun f => if key f = m then g f else f) = fun f => decide (key f = n) := by
    funext c
    simp only [Function.comp, e]
  rw [e2]
  cases h : List.find? (fun f => decide (key f = n)) l with
  | none => simp
  | some f =>
    have hk : key f = n := by simpa using List.find?_some h
    simp only [Option.map_some]
    by_cases hm : m = n
    · rw [if_pos hm, if_pos (by rw [hk, hm])]
    · rw [if_neg hm, if_neg (by rw [hk]; exact fun e => hm e.symm)]
theorem srt_ext {l l' : List α} (s : Srt key l) (s' : Srt key l') (h : ∀ n, fndK key n l = fndK key n l') : l = l' := by
  have sub : ∀ {l l' : List α}, Srt key l → (∀ n, fndK key n l = fndK key n l') → ∀ f ∈ l, f ∈ l' := by
    intro l l' s h f hf
    have := fndK_mem s hf
    rw [h] at this
    exact (fndK_some this).1
  have hm : ∀ f, f ∈ l ↔ f ∈ l' := fun f => ⟨sub s h f, sub s' (fun n => (h n).symm) f⟩
  have go : ∀ (l l' : List α), Srt key l → Srt key l' → (∀ f, f ∈ l ↔ f ∈ l') → l = l' := by
    intro l
    induction l with
    | nil =>
      intro l' _ _ hm
      cases l' with
      | nil => rfl
      | cons y r => exact absurd ((hm y).2 (by simp)) (by simp)
    | cons x r ih =>
      intro l' s s' hm
      cases l' with
      | nil => exact absurd ((hm x).1 (by simp)) (by simp)
      | cons y r' =>
        obtain ⟨h1, h2⟩ := List.pairwise_cons.1 s
        obtain ⟨h1', h2'⟩ := List.pairwise_cons.1 s'
        have exy : x = y := by
          rcases List.mem_cons.1 ((hm x).1 (by simp)) with e | e
          · exact e
          · rcases List.mem_cons.1 ((hm y).2 (by simp)) with e' | e'
            · exact e'.symm
            · have a := bb_trans (h1' x e) (h1 y e')
              rw [bb_irrefl] at a
              cases a
        subst exy
        rw [ih r' h2 h2' (fun f => ?_)]
        constructor
        · intro hf
          rcases List.mem_cons.1 ((hm f).1 (by simp [hf])) with e | e
          · subst e
            have := h1 f hf
            rw [bb_irrefl] at this
            cases this
          · exact e
        · intro hf
          rcases List.mem_cons.1 ((hm f).2 (by simp [hf])) with e | e
          · subst e
            have := h1' f hf
            rw [bb_irrefl] at this
            cases this
          · exact e
  exact go l l' s s' hm
theorem del_none {n : List UInt8} {l : List α} (h : fndK key n l = none) : delK key n l = l := by
  unfold delK
  rw [List.filter_eq_self]
  intro f hf
  simp [fndK_none h f hf]
theorem set_none {n : List UInt8} {g : α → α} {l : List α} (h : fndK key n l = none) : setK key n g l = l := by
  unfold setK
  conv => rhs; rw [← List.map_id l]
  apply List.map_congr_left
  intro f hf
  rw [if_neg (fndK_none h f hf)]
  rfl
theorem put_set {n : List UInt8} {g : α → α} {l : List α} {f : α} (s : Srt key l) (hg : ∀ f, key (g f) = key f) (h : fndK key n l = some f) : putK key (g f) l = setK key n g l := by
  refine srt_ext (srt_put s) (srt_set s hg) (fun m => ?_)
  rw [fnd_put _ s, fnd_set hg, hg, (fndK_some h).2]
  split
  · rename_i e
    subst e
    rw [h]
    rfl
  · rfl
theorem put_same {n : List UInt8} {l : List α} {f : α} (s : Srt key l) (h : fndK key n l = some f) : putK key f l = l := by
  refine srt_ext (srt_put s) s (fun m => ?_)
  rw [fnd_put _ s, (fndK_some h).2]
  split
  · rename_i e
    subst e
    exact h.symm
  · rfl
theorem put_del {n : List UInt8} {l : List α} {f : α} (s : Srt key l) (h : fndK key n l = some f) : putK key f (delK key n l) = l := by
  refine srt_ext (srt_put (srt_del s)) s (fun m => ?_)
  rw [fnd_put _ (srt_del s), (fndK_some h).2, fnd_del s]
  split
  · rename_i e
    subst e
    exact h.symm
  · rfl
theorem len_ins (x : α) (l : List α) : (insK key x l).length = l.length + 1 := by
  induction l with
  | nil => rfl
  | cons y r ih =>
    unfold insK
    split
    · rfl
    · simp [ih]
theorem len_del (n : List UInt8) (l : List α) : (delK key n l).length ≤ l.length := List.length_filter_le _ _
theorem len_del_some {n : List UInt8} {l : List α} {f : α} (h : fndK key n l = some f) : (delK key n l).length + 1 ≤ l.length := by
  obtain ⟨h1, h2⟩ := fndK_some h
  have : (delK key n l).length < l.length := by
    unfold delK
    rw [← Nat.not_le]
    intro hle
    have e := (List.filter_sublist (l := l) (p := fun f => !decide (key f = n))).eq_of_length_le hle
    have := e ▸ h1
    have := (List.mem_filter.1 this).2
    simp [h2] at this
  omega
theorem len_set (n : List UInt8) (g : α → α) (l : List α) : (setK key n g l).length = l.length := by simp [setK]
end
/-- May a name be? -/
def okB (b : UInt8) : Bool := (decide (97 ≤ b.toNat) && decide (b.toNat ≤ 122)) || (decide (48 ≤ b.toNat) && decide (b.toNat ≤ 57))
def mayN (n : List UInt8) : Bool := (decide (1 ≤ n.length) && decide (n.length ≤ 64)) && n.all okB
/-- A file: its name, what it has, what is safe of it, whether something is. -/
structure PF where
  nm : List UInt8
  has : List UInt8
  safe : List UInt8
  kept : Bool
/-- A disk: its files, whether it is down, its fuse (-1: none). -/
structure PS where
  fs : List PF
  dn : Bool
  left : Int
def chgOk (S : PS) : Bool := !S.dn && !decide (S.left = 0)
def chgDown (S : PS) : PS := { S with dn := true }
def chgUp (S : PS) : PS := { S with left := if 0 < S.left then S.left - 1 else S.left }
def fnd (S : PS) (n : List UInt8) : Option PF := fndK PF.nm n S.fs
def wrLong (S : PS) (n data : List UInt8) : Bool := decide (262144 < data.length) || ((fnd S n).isNone && decide (64 ≤ S.fs.length))
def wrF (S : PS) (n data : List UInt8) : PF := match fnd S n with
  | some f => { f with has := data }
  | none => ⟨n, data, [], false⟩
def wrE (S : PS) (n data : List UInt8) : Int := if mayN n = false then 170 else if wrLong S n data then 2 else if chgOk S then 0 else 191
def wrS (S : PS) (n data : List UInt8) : PS := if mayN n = false then S else if wrLong S n data then S else if chgOk S then { chgUp S with fs := putK PF.nm (wrF S n data) S.fs } else chgDown S
/-- What is wrong with the name of a file that must be there. -/
def knE (S : PS) (n : List UInt8) : Int := if mayN n = false then 170 else if (fnd S n).isNone then 5 else 0
def apLong (S : PS) (n data : List UInt8) : Bool := match fnd S n with
  | some f => decide (262144 < f.has.length + data.length)
  | none => false
def apE (S : PS) (n data : List UInt8) : Int := if knE S n ≠ 0 then knE S n else if apLong S n data then 2 else if chgOk S then 0 else 191
def apS (S : PS) (n data : List UInt8) : PS := if knE S n ≠ 0 then S else if apLong S n data then S else if chgOk S then { chgUp S with fs := setK PF.nm n (fun f => { f with has := f.has ++ data }) S.fs } else chgDown S
def syE (S : PS) (n : List UInt8) : Int := if knE S n ≠ 0 then knE S n else if chgOk S then 0 else 191
def syS (S : PS) (n : List UInt8) : PS := if knE S n ≠ 0 then S else if chgOk S then { chgUp S with fs := setK PF.nm n (fun f => { f with safe := f.has, kept := true }) S.fs } else chgDown S
def reE (S : PS) (n m : List UInt8) : Int := if mayN n = false ∨ mayN m = false then 170 else if knE S n ≠ 0 then knE S n else if chgOk S then 0 else 191
def reL (S : PS) (n m : List UInt8) : List PF := match fnd S n with
  | some f => putK PF.nm { f with nm := m } (delK PF.nm n S.fs)
  | none => S.fs
def reS (S : PS) (n m : List UInt8) : PS := if mayN n = false ∨ mayN m = false then S else if knE S n ≠ 0 then S else if chgOk S then { chgUp S with fs := reL S n m } else chgDown S
def rmS (S : PS) (n : List UInt8) : PS := if knE S n ≠ 0 then S else if chgOk S then { chgUp S with fs := delK PF.nm n S.fs } else chgDown S
def fuE (k : Int) : Int := if k < 0 then 1 else 0
def fuS (S : PS) (k : Int) : PS := if k < 0 then S else { S with left := k }
/-- What a crash leaves of a file that is not safe. -/
def tearN (f : PF) (x : Int) : List UInt8 :=
  if x < 0 then f.safe
  else f.has.take ((if f.kept && f.safe.isPrefixOf f.has then f.safe.length else 0) + (x.toNat % (f.has.length - (if f.kept && f.safe.isPrefixOf f.has then f.safe.length else 0) + 1)))
def tearF (f : PF) (x : Int) : PF := { f with has := tearN f x, safe := tearN f x, kept := true }
def isSafe (f : PF) : Bool := f.kept && decide (f.has = f.safe)
def crL : List PF → List Int → List PF
  | [], _ => []
  | f :: r, xs => if isSafe f then f :: crL r xs else if xs.headD 0 < 0 ∧ f.kept = false then crL r xs.tail else tearF f (xs.headD 0) :: crL r xs.tail
def crE (xs : List Int) : Int := if 16384 < xs.length then 2 else 0
def crS (S : PS) (xs : List Int) : PS := if 16384 < xs.length then S else ⟨crL S.fs xs, false, -1⟩
theorem crL_safe : ∀ (l : List PF) (xs : List Int), ∀ f ∈ crL l xs, isSafe f = true
  | [], _, f, h => by simp [crL] at h
  | g :: r, xs, f, h => by
    unfold crL at h
    split at h
    · rename_i hs
      rcases List.mem_cons.1 h with rfl | h
      · exact hs
      · exact crL_safe r _ f h
    · split at h
      · exact crL_safe r _ f h
      · rcases List.mem_cons.1 h with rfl | h
        · simp [isSafe, tearF]
        · exact crL_safe r _ f h
theorem crL_all : ∀ (l : List PF) (xs : List Int), (∀ f ∈ l, isSafe f = true) → crL l xs = l
  | [], _, _ => rfl
  | g :: r, xs, h => by
    unfold crL
    rw [if_pos (h g (by simp)), crL_all r xs (fun f hf => h f (by simp [hf]))]
theorem crL_twice (l : List PF) (xs ys : List Int) : crL (crL l xs) ys = crL l xs := crL_all _ _ (crL_safe l xs)
end Go.Proofs.Ytlbkmhlpgpfafaa
