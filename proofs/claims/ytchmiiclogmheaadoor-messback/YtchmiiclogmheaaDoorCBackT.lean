/-
  Items there and back: an item's bytes tell it, and where they end.
-/
import Derived.Test.YtchmiiclogmheaaDoorCBackN
import Derived.Test.YtchmiiclogmheaaDoorCRefCheck
namespace Go.Proofs.YtchmiiclogmheaaDoor.C2
open Go.RowKit
/-- An item that may be written, so many levels down. -/
def Okk : Nat → T → Prop
  | 0, _ => False
  | f + 1, t => t.keeps = true ∧ t.l.length ≤ 16384 ∧ (0 ≤ t.n ∧ t.n < 18446744073709551616) ∧ t.s.size < 18446744073709551616 ∧ ∀ j, j < t.l.length → Okk f (t.m j)
set_option maxRecDepth 100000 in
theorem okk_of {w : World} (f : Nat) : ∀ t, InF w f t → wrongF f t = 0 → Okk f t := by
  induction f with
  | zero => intro t _ h; unfold wrongF at h; omega
  | succ f ih =>
    intro t hin h
    obtain ⟨hk, hm, hmem⟩ := wrong_parts h
    obtain ⟨a1, a2, a3, _⟩ := hin.1
    exact ⟨hk, hm, ⟨a1, by omega⟩, by omega, fun j hj => ih _ (hin.mem hj) (hmem j hj)⟩
set_option maxRecDepth 100000 in
theorem firstE_all {E : Nat → Int} {m : Nat} (h : ∀ j, j < m → E j = 0) : firstE E m = 0 := by
  induction m with
  | zero => rfl
  | succ m ih => unfold firstE; rw [ih (fun j hj => h j (by omega)), if_pos rfl]; exact h m (by omega)
set_option maxRecDepth 100000 in
theorem Okk.wrong (f : Nat) : ∀ t, Okk f t → wrongF f t = 0 := by
  induction f with
  | zero => intro t h; exact h.elim
  | succ f ih =>
    intro t ⟨hk, hm, _, _, hmem⟩
    unfold wrongF
    rw [if_neg (by rw [hk]; decide), if_neg (by omega)]
    exact firstE_all fun j hj => ih _ (hmem j hj)
/-- The same item, wherever it lies. -/
def Sm : Nat → T → T → Prop
  | 0, _, _ => True
  | f + 1, t, u => t.k = u.k ∧ t.n = u.n ∧ t.s = u.s ∧ t.l.length = u.l.length ∧ ∀ j, j < t.l.length → Sm f (t.m j) (u.m j)
set_option maxRecDepth 100000 in
theorem catE_front (Z : Nat → List UInt8) (m : Nat) : catE Z (m + 1) = Z 0 ++ catE (fun j => Z (j + 1)) m := by
  induction m with
  | zero => simp [catE]
  | succ m ih =>
    show catE Z (m + 1) ++ Z (m + 1) = Z 0 ++ (catE (fun j => Z (j + 1)) m ++ Z (m + 1))
    rw [ih, List.append_assoc]
set_option maxRecDepth 100000 in
theorem catE_inj (m : Nat) : ∀ (Z Y : Nat → List UInt8) (r q : List UInt8) (P : Nat → Prop), (∀ j, j < m → ∀ r q, Z j ++ r = Y j ++ q → P j ∧ r = q) → catE Z m ++ r = catE Y m ++ q → (∀ j, j < m → P j) ∧ r = q := by
  induction m with
  | zero => intro Z Y r q P _ h; exact ⟨fun j hj => absurd hj (by omega), h⟩
  | succ m ih =>
    intro Z Y r q P hZ h
    rw [catE_front, catE_front, List.append_assoc, List.append_assoc] at h
    obtain ⟨h0, h1⟩ := hZ 0 (by omega) _ _ h
    obtain ⟨h2, h3⟩ := ih _ _ r q (fun j => P (j + 1)) (fun j hj => hZ (j + 1) (by omega)) h1
    refine ⟨fun j hj => ?_, h3⟩
    cases j with
    | zero => exact h0
    | succ j => exact h2 j (by omega)
set_option maxRecDepth 100000 in
theorem str_nil {s : ByteArray} (h : s.toList = []) : s = ⟨#[]⟩ := by
  rw [ByteArray.toList_eq] at h
  apply ByteArray.ext
  apply Array.toList_inj.1
  exact h
set_option maxRecDepth 100000 in
theorem encF_inj (f : Nat) : ∀ (t u : T) (r q : List UInt8), Okk f t → Okk f u → encF f t ++ r = encF f u ++ q → Sm f t u ∧ r = q := by
  induction f with
  | zero => intro t u r q h; exact h.elim
  | succ f ih =>
    intro t u r q ⟨hk, hm, hn, hs, hmem⟩ ⟨gk, gm, gn, gs, gmem⟩ h
    unfold encF at h
    have hk' : keepsB t.k t.n t.s t.l.length = true := hk
    have gk' : keepsB u.k u.n u.s u.l.length = true := gk
    rcases keeps_cases hk' with ⟨a1, a2, a3⟩ | ⟨a1, a2, a3⟩ | ⟨a1, a2, a3⟩ <;> rcases keeps_cases gk' with ⟨b1, b2, b3⟩ | ⟨b1, b2, b3⟩ | ⟨b1, b2, b3⟩
    · rw [if_pos a1, if_pos b1] at h
      simp only [List.cons_append, List.cons.injEq, true_and] at h
      obtain ⟨e, e2⟩ := numD_inj (by omega) (by omega) h
      exact ⟨⟨by omega, by omega, by rw [str_nil a2, str_nil b2], by omega, fun j hj => absurd hj (by omega)⟩, e2⟩
    · rw [if_pos a1, if_neg (by omega), if_pos b1] at h
      exact absurd (List.cons.inj h).1 (by decide)
    · rw [if_pos a1, if_neg (by omega), if_neg (by omega)] at h
      exact absurd (List.cons.inj h).1 (by decide)
    · rw [if_neg (by omega), if_pos a1, if_pos b1] at h
      exact absurd (List.cons.inj h).1 (by decide)
    · rw [if_neg (by omega), if_pos a1, if_neg (by omega), if_pos b1] at h
      simp only [List.cons_append, List.cons.injEq, true_and, List.append_assoc] at h
      obtain ⟨e, e2⟩ := numD_inj hs gs h
      have e3 : t.s.data.toList.length = u.s.data.toList.length := by simpa using e
      obtain ⟨e4, e5⟩ := List.append_inj e2 e3
      exact ⟨⟨by omega, by omega, by apply ByteArray.ext; exact Array.toList_inj.1 e4, by omega, fun j hj => absurd hj (by omega)⟩, e5⟩
    · rw [if_neg (by omega), if_pos a1, if_neg (by omega), if_neg (by omega)] at h
      exact absurd (List.cons.inj h).1 (by decide)
    · rw [if_neg (by omega), if_neg (by omega), if_pos b1] at h
      exact absurd (List.cons.inj h).1 (by decide)
    · rw [if_neg (by omega), if_neg (by omega), if_neg (by omega), if_pos b1] at h
      exact absurd (List.cons.inj h).1 (by decide)
    · rw [if_neg (by omega), if_neg (by omega), if_neg (by omega), if_neg (by omega)] at h
      simp only [List.cons_append, List.cons.injEq, true_and, List.append_assoc] at h
      obtain ⟨e, e2⟩ := numD_inj (by omega) (by omega) h
      rw [← e] at e2
      obtain ⟨e3, e4⟩ := catE_inj t.l.length _ _ _ _ (fun j => Sm f (t.m j) (u.m j)) (fun j hj r q hh => ih _ _ r q (hmem j hj) (gmem j (by omega)) hh) e2
      exact ⟨⟨by omega, by omega, by rw [str_nil a3, str_nil b3], e, e3⟩, e4⟩
/-- There is no item at these bytes. -/
def NoItem (f : Nat) (l : List UInt8) : Prop := ∀ t r, Okk f t → l = encF f t ++ r → False
/-- There is no number at these bytes. -/
def NoNum (l : List UInt8) : Prop := ∀ m r, m < 18446744073709551616 → l = numD m ++ r → False
set_option maxRecDepth 100000 in
theorem noNum_all {l : List UInt8} (h : ∀ b ∈ l, 128 ≤ b.toNat) : NoNum l := by
  intro m r hm e
  obtain ⟨x, y, e1, _, hy⟩ := numD_shape hm
  have := h y (by rw [e, e1]; simp)
  omega
set_option maxRecDepth 100000 in
/-- The groups are the number's bytes, if there is one. -/
theorem num_groups {l g q : List UInt8} {y : UInt8} (hl : l = (g ++ [y]) ++ q) (hg : ∀ b ∈ g, 128 ≤ b.toNat) (hy : y.toNat < 128) {m : Nat} {r : List UInt8} (hm : m < 18446744073709551616) (e : l = numD m ++ r) : numD m = g ++ [y] ∧ r = q := by
  obtain ⟨x, z, e1, hx, hz⟩ := numD_shape hm
  rw [e1, hl] at e
  clear hl
  have key : ∀ (g x : List UInt8), (∀ b ∈ g, 128 ≤ b.toNat) → (∀ b ∈ x, 128 ≤ b.toNat) → (g ++ [y]) ++ q = (x ++ [z]) ++ r → g ++ [y] = x ++ [z] ∧ q = r := by
    intro g
    induction g with
    | nil =>
      intro x _ hx h
      cases x with
      | nil => simp at h; simp [h]
      | cons b x =>
        simp at h
        have := hx b (by simp)
        rw [← h.1] at this
        omega
    | cons c g ih =>
      intro x hg hx h
      cases x with
      | nil =>
        simp at h
        have := hg c (by simp)
        rw [h.1] at this
        omega
      | cons b x =>
        simp only [List.cons_append, List.cons.injEq] at h
        obtain ⟨h1, h2⟩ := ih x (fun b hb => hg b (by simp [hb])) (fun b hb => hx b (by simp [hb])) h.2
        exact ⟨by simp only [List.cons_append]; rw [h.1, h1], h2⟩
  obtain ⟨h1, h2⟩ := key g x hg hx e
  exact ⟨by rw [e1, h1], h2.symm⟩
set_option maxRecDepth 100000 in
theorem noNum_bad {l g q : List UInt8} {y : UInt8} (hl : l = (g ++ [y]) ++ q) (hg : ∀ b ∈ g, 128 ≤ b.toNat) (hy : y.toNat < 128) (h : numD (orV (g ++ [y]) (g ++ [y]).length) ≠ g ++ [y]) : NoNum l := by
  intro m r hm e
  obtain ⟨h1, _⟩ := num_groups hl hg hy hm e
  apply h
  rw [← h1, orV_numD hm]
end Go.Proofs.YtchmiiclogmheaaDoor.C2
