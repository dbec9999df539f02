/-
  What each call leaves of the number of letters.
-/
import Derived.Test.YtfhlfklgngpklaaCnt
import Derived.Test.YtfhlfklgngpklaaGiv
namespace Go.Proofs.Ytfhlfklgngpklaa
open Go.RowKit Go.Maps
theorem sd_eq (S : NS) (p : Pr) (s : ByteArray) : (sdE S p s = 0 ∧ In S.N p ∧ sdS S p s = S.set p (S.bg p ++ [s])) ∨ (sdE S p s ≠ 0 ∧ sdS S p s = S) := by
  unfold sdE sdS putE putS
  by_cases hI : In S.N p
  · rw [lkB_in hI]
    by_cases h1 : 262144 < s.size
    · exact Or.inr (by simp [h1])
    · by_cases h2 : isDn S p.a = true
      · exact Or.inr (by simp [h1, h2])
      · by_cases h3 : (S.bg p).length = 4096
        · exact Or.inr (by simp [h1, h2, h3])
        · exact Or.inl (by simp [h1, h2, h3, hI])
  · rw [lkB_not hI]
    exact Or.inr (by simp)
theorem cp_eq (S : NS) (p : Pr) (i : Int) : (cpE S p i = 0 ∧ In S.N p ∧ cpS S p i = S.set p (S.bg p ++ [letS S p i])) ∨ (cpE S p i ≠ 0 ∧ cpS S p i = S) := by
  unfold cpE cpS putE putS
  by_cases h : letE S p i = 0
  · have hI := (let_ok h).1
    by_cases h3 : (S.bg p).length = 4096
    · exact Or.inr (by simp [h, h3])
    · exact Or.inl (by simp [h, h3, hI])
  · exact Or.inr (by simp [h])
theorem erase_len {S : NS} {p : Pr} {i : Int} (h : letE S p i = 0) : In S.N p ∧ ((S.bg p).eraseIdx i.toNat).length + 1 = (S.bg p).length := by
  obtain ⟨hI, j, rfl, hj, _⟩ := let_ok h
  refine ⟨hI, ?_⟩
  rw [List.length_eraseIdx, if_pos (by simpa using hj)]
  omega
theorem lo_eq (S : NS) (p : Pr) (i : Int) : (loE S p i = 0 ∧ letE S p i = 0 ∧ loS S p i = S.set p ((S.bg p).eraseIdx i.toNat)) ∨ (loE S p i ≠ 0 ∧ loS S p i = S) := by
  unfold loE loS
  by_cases h : letE S p i = 0
  · exact Or.inl (by simp [h])
  · exact Or.inr (by simp [h])
theorem tk_eq (S : NS) (p : Pr) (i : Int) : (tkE S p i = 0 ∧ letE S p i = 0 ∧ tkS S p i = S.set p ((S.bg p).eraseIdx i.toNat)) ∨ (tkE S p i ≠ 0 ∧ tkS S p i = S) := by
  unfold tkE tkS
  by_cases h : letE S p i = 0
  · by_cases h2 : isDn S p.b = true
    · exact Or.inr (by simp [h, h2])
    · exact Or.inl (by simp [h, h2])
  · exact Or.inr (by simp [h])
/-- A net of so many nodes and so many letters. -/
def TT (B : Nat) (w : World) (n N q : Nat) : Prop := ∃ S, S.N = N ∧ tot S = q ∧ NB B w n S
section
variable {B n N q : Nat} {w w' : World}
theorem TT.on (h : TT B w n N q) (hb : Below w.heap.size w w') : TT B w' n N q := by
  obtain ⟨S, h1, h2, h3⟩ := h
  exact ⟨S, h1, h2, h3.on hb⟩
theorem New_t (N : Nat) (w : World) (h1 : 1 ≤ N) (h2 : N ≤ 65) :
    Calls Try.prog 8 #[.int .i64 (N : Int)] w fun e w' => ∃ n, e = .returned (.tuple #[.pointer (some ⟨n, 0, none⟩), .int .i64 0]) ∧ TT w.heap.size w' n N 0 ∧ Below w.heap.size w w' := by
  refine (New_nb N w h1 h2).mono ?_
  rintro e w' ⟨n, h3, h4, h5⟩
  refine ⟨n, h3, ⟨_, rfl, ?_, h4⟩, h5⟩
  have z : ∀ m, sumTo (fun _ => 0) m = 0 := by
    intro m
    induction m with
    | zero => rfl
    | succ m ih => unfold sumTo; rw [ih]
  show sumTo (rowL (ST N fun _ => [])) N = 0
  rw [sumTo_congr (g := fun _ => 0) (fun a _ => ?_), z]
  show sumTo (lenAt (ST N fun _ => []) a) N = 0
  rw [sumTo_congr (g := fun _ => 0) (fun b _ => ?_), z]
  unfold lenAt
  show (if _ then 0 else 0) = 0
  split <;> rfl
theorem Send_t (h : TT B w n N q) (p : Pr) (s : ByteArray) :
    Calls Try.prog 14 #[.pointer (some ⟨n, 0, none⟩), .int .i64 p.a, .int .i64 p.b, .string s] w fun e w' => ∃ (E : Int) (q' : Nat), e = .returned (.int .i64 E) ∧ (E = 0 ∧ q' = q + 1 ∨ E ≠ 0 ∧ q' = q) ∧ TT B w' n N q' ∧ Below B w w' := by
  obtain ⟨S, h1, h2, h3⟩ := h
  refine (Send_nb h3 p s).mono ?_
  rintro e w' ⟨e1, e2, e3⟩
  rcases sd_eq S p s with ⟨g, hI, g2⟩ | ⟨g, g2⟩
  · rw [g2] at e2
    have := tot_set hI (S.bg p ++ [s])
    rw [List.length_append] at this
    exact ⟨_, q + 1, e1, Or.inl ⟨g, rfl⟩, ⟨S.set p (S.bg p ++ [s]), h1, by simp only [List.length_cons, List.length_nil] at this; omega, e2⟩, e3⟩
  · rw [g2] at e2
    exact ⟨_, q, e1, Or.inr ⟨g, rfl⟩, ⟨_, h1, h2, e2⟩, e3⟩
theorem Copy_t (h : TT B w n N q) (p : Pr) (i : Int) :
    Calls Try.prog 15 #[.pointer (some ⟨n, 0, none⟩), .int .i64 p.a, .int .i64 p.b, .int .i64 i] w fun e w' => ∃ (E : Int) (q' : Nat), e = .returned (.int .i64 E) ∧ (E = 0 ∧ q' = q + 1 ∨ E ≠ 0 ∧ q' = q) ∧ TT B w' n N q' ∧ Below B w w' := by
  obtain ⟨S, h1, h2, h3⟩ := h
  refine (Copy_nb h3 p i).mono ?_
  rintro e w' ⟨e1, e2, e3⟩
  rcases cp_eq S p i with ⟨g, hI, g2⟩ | ⟨g, g2⟩
  · rw [g2] at e2
    have := tot_set hI (S.bg p ++ [letS S p i])
    rw [List.length_append] at this
    exact ⟨_, q + 1, e1, Or.inl ⟨g, rfl⟩, ⟨S.set p (S.bg p ++ [letS S p i]), h1, by simp only [List.length_cons, List.length_nil] at this; omega, e2⟩, e3⟩
  · rw [g2] at e2
    exact ⟨_, q, e1, Or.inr ⟨g, rfl⟩, ⟨_, h1, h2, e2⟩, e3⟩
theorem Lose_t (h : TT B w n N q) (p : Pr) (i : Int) :
    Calls Try.prog 18 #[.pointer (some ⟨n, 0, none⟩), .int .i64 p.a, .int .i64 p.b, .int .i64 i] w fun e w' => ∃ (E : Int) (q' : Nat), e = .returned (.int .i64 E) ∧ (E = 0 ∧ q = q' + 1 ∨ E ≠ 0 ∧ q' = q) ∧ TT B w' n N q' ∧ Below B w w' := by
  obtain ⟨S, h1, h2, h3⟩ := h
  refine (Lose_nb h3 p i).mono ?_
  rintro e w' ⟨e1, e2, e3⟩
  rcases lo_eq S p i with ⟨g, hI, g2⟩ | ⟨g, g2⟩
  · rw [g2] at e2
    obtain ⟨hI, hl⟩ := erase_len hI
    have := tot_set hI ((S.bg p).eraseIdx i.toNat)
    exact ⟨_, q - 1, e1, Or.inl ⟨g, by omega⟩, ⟨S.set p ((S.bg p).eraseIdx i.toNat), h1, by omega, e2⟩, e3⟩
  · rw [g2] at e2
    exact ⟨_, q, e1, Or.inr ⟨g, rfl⟩, ⟨_, h1, h2, e2⟩, e3⟩
theorem Take_t (h : TT B w n N q) (p : Pr) (i : Int) :
    Calls Try.prog 16 #[.pointer (some ⟨n, 0, none⟩), .int .i64 p.a, .int .i64 p.b, .int .i64 i] w fun e w' => ∃ (t : ByteArray) (E : Int) (q' : Nat), e = .returned (.tuple #[.string t, .int .i64 E]) ∧ (E = 0 ∧ q = q' + 1 ∨ E ≠ 0 ∧ q' = q) ∧ TT B w' n N q' ∧ Below B w w' := by
  obtain ⟨S, h1, h2, h3⟩ := h
  refine (Take_nb h3 p i).mono ?_
  rintro e w' ⟨e1, e2, e3⟩
  rcases tk_eq S p i with ⟨g, hI, g2⟩ | ⟨g, g2⟩
  · rw [g2] at e2
    obtain ⟨hI, hl⟩ := erase_len hI
    have := tot_set hI ((S.bg p).eraseIdx i.toNat)
    exact ⟨_, _, q - 1, e1, Or.inl ⟨g, by omega⟩, ⟨S.set p ((S.bg p).eraseIdx i.toNat), h1, by omega, e2⟩, e3⟩
  · rw [g2] at e2
    exact ⟨_, _, q, e1, Or.inr ⟨g, rfl⟩, ⟨_, h1, h2, e2⟩, e3⟩
theorem Down_t (h : TT B w n N q) (a : Int) :
    Calls Try.prog 19 #[.pointer (some ⟨n, 0, none⟩), .int .i64 a] w fun e w' => ∃ E : Int, e = .returned (.int .i64 E) ∧ TT B w' n N q ∧ Below B w w' := by
  obtain ⟨S, h1, h2, h3⟩ := h
  refine (Down_nb h3 a).mono ?_
  rintro e w' ⟨e1, e2, e3⟩
  refine ⟨_, e1, ⟨_, ?_, ?_, e2⟩, e3⟩
  · unfold dwS; split <;> exact h1
  · unfold dwS; split <;> exact h2
theorem Up_t (h : TT B w n N q) (a : Int) :
    Calls Try.prog 20 #[.pointer (some ⟨n, 0, none⟩), .int .i64 a] w fun e w' => ∃ E : Int, e = .returned (.int .i64 E) ∧ TT B w' n N q ∧ Below B w w' := by
  obtain ⟨S, h1, h2, h3⟩ := h
  refine (Up_nb h3 a).mono ?_
  rintro e w' ⟨e1, e2, e3⟩
  refine ⟨_, e1, ⟨_, ?_, ?_, e2⟩, e3⟩
  · unfold tuS; split <;> exact h1
  · unfold tuS; split <;> exact h2
/-- A bag between two nodes, and its letters counted. -/
theorem Bag_t {S : NS} (h : NB B w n S) (a b : Nat) (ha : a < S.N) (hb : b < S.N) :
    Calls Try.prog 21 #[.pointer (some ⟨n, 0, none⟩), .int .i64 (a : Int), .int .i64 (b : Int)] w fun e w' => ∃ x c, e = .returned (.tuple #[.slice x (lenAt S a b) c, .int .i64 (if a = b then 190 else 0)]) ∧ NB B w' n S ∧ Below B w w' := by
  have hB := h.le
  refine (Bag_nb h (pN a b)).mono ?_
  rintro e w' ⟨x, c, e1, e2, e3⟩
  refine ⟨x, c, ?_, h.on e3, e3.mono hB⟩
  have hE : bgE S (pN a b) = (if a = b then 190 else 0) ∧ (bgL S (pN a b)).length = lenAt S a b := by
    unfold bgE bgL lenAt
    by_cases hab : a = b
    · have hI : ¬ In S.N (pN a b) := fun h => h.2.2.2.2 (by show (a : Int) = b; omega)
      rw [lkB_not hI]
      simp [hab, hab ▸ hI]
    · have hI : In S.N (pN a b) := ⟨by show (0 : Int) ≤ a; omega, by show (a : Int) < S.N; omega, by show (0 : Int) ≤ b; omega, by show (b : Int) < S.N; omega, by show (a : Int) ≠ b; omega⟩
      rw [lkB_in hI]
      simp [hab, hI]
  rw [e1, hE.1, hE.2]
theorem Links_t {S : NS} (h : NB B w n S) :
    Calls Try.prog 22 #[.pointer (some ⟨n, 0, none⟩)] w fun e w' => ∃ a c, e = .returned (.slice a (cntL S) c) ∧ Below B w w' := by
  have hB := h.le
  obtain ⟨P, ⟨db, mb, tv, sv, D, k, h⟩, hP⟩ := h
  refine (Links_any h).mono ?_
  rintro e w' ⟨a, c, l, e1, e2, _, e4⟩
  rw [links_count e2] at e1
  exact ⟨a, c, e1, e4.mono hB⟩
theorem sumTo_mono {f : Nat → Nat} {i : Nat} : ∀ {n : Nat}, i ≤ n → sumTo f i ≤ sumTo f n
  | 0, h => by obtain rfl : i = 0 := by omega
               exact Nat.le_refl _
  | n + 1, h => by
    by_cases e : i = n + 1
    · rw [e]; exact Nat.le_refl _
    · have := sumTo_mono (f := f) (i := i) (n := n) (by omega)
      show sumTo f i ≤ sumTo f n + f n
      omega
end
end Go.Proofs.Ytfhlfklgngpklaa
