/-
  Plain mathematics of messages: what may be is fine; how long its bytes are. Plain mathematics of messages as items: they may be items; the same items, the same messages.
-/
import Derived.Test.YtchmiiclogmheaaDoorMe9
import Derived.Test.YtchmiiclogmheaaDoorCBackT
import Derived.Test.YtchmiiclogmheaaDoorMe4
namespace Go.Proofs.YtchmiiclogmheaaDoor.C2
open Go.RowKit
theorem okk_num {f : Nat} {x : Int} (h0 : 0 ≤ x) (h1 : x ≤ 18446744073709551615) : Okk (f + 1) (nT x) :=
  ⟨by simp [T.keeps, keepsB, nT, T.k, T.s, T.l], by show (0 : Nat) ≤ _; omega, ⟨h0, by show x < _; omega⟩, by show (0 : Nat) < _; omega, fun j hj => absurd hj (by show ¬ j < 0; omega)⟩
theorem okk_list {f : Nat} {a : Option Addr} {c : Nat} {l : List T} (h : l.length ≤ 16384) (hl : ∀ j, j < l.length → Okk f (l.getD j T.zero)) : Okk (f + 1) (lT a c l) :=
  ⟨by simp [T.keeps, keepsB, lT, T.k, T.n, T.s], h, ⟨by show (0 : Int) ≤ 0; omega, by show (0 : Int) < _; omega⟩, by show (0 : Nat) < _; omega, hl⟩
theorem okk_nums {f : Nat} {a : Option Addr} {c : Nat} {xs : List Int} (h : xs.length ≤ 16384) (hx : ∀ j, j < xs.length → 0 ≤ xs.getD j 0 ∧ xs.getD j 0 ≤ 18446744073709551615) : Okk (f + 2) (lT a c (xs.map nT)) :=
  okk_list (by simpa using h) (fun j hj => by
    have hj : j < xs.length := by simpa using hj
    obtain ⟨h0, h1⟩ := hx j hj
    rw [show (xs.map nT).getD j T.zero = nT (xs.getD j 0) by simp [List.getD, hj]]
    exact okk_num h0 h1)
theorem four_getD {x y z t d : T} (j : Nat) (hj : j < 4) {P : T → Prop} (h0 : P x) (h1 : P y) (h2 : P z) (h3 : P t) : P ([x, y, z, t].getD j d) := by
  have : j = 0 ∨ j = 1 ∨ j = 2 ∨ j = 3 := by omega
  rcases this with rfl | rfl | rfl | rfl
  · exact h0
  · exact h1
  · exact h2
  · exact h3
theorem okk_ms {f : Nat} {t : T} {l : List MX} (h : IsMs t l) (hl : l.length ≤ 16384) (ho : MxOk l) : Okk (f + 4) t := by
  obtain ⟨a, c, u, rfl, hu, hx⟩ := h
  refine okk_list (by omega) (fun j hj => ?_)
  obtain ⟨a2, c2, a3, c3, e⟩ := hx j (by omega)
  rw [e]
  obtain ⟨⟨⟨p0, p1⟩, ⟨p2, p3⟩, p4, p5⟩, p6, p7⟩ := ho j (by omega)
  exact okk_list (by show 4 ≤ 16384; omega) (fun i hi => four_getD i hi (okk_num p0 (by omega)) (okk_num p2 (by omega)) (okk_num p4 (by omega)) (okk_nums p6 p7))
theorem okk_field {g f : Nat} {m : MM} {t : T} (ho : Ok m) (h8 : f = 8 → MxOk m.ms) (h6 : f ≤ 6 → 0 ≤ nF m f ∧ nF m f ≤ 9223372036854775807) (hf : f ≤ 9) (h : IsF m f t) : Okk (g + 4) t := by
  unfold IsF at h
  by_cases e7 : f = 7
  · rw [if_pos e7] at h
    obtain ⟨a, c, rfl⟩ := h
    exact okk_nums ho.wl (fun j hj => by have := ho.wb j hj; omega)
  · rw [if_neg e7] at h
    by_cases e8 : f = 8
    · rw [if_pos e8] at h
      exact okk_ms h ho.ml (h8 e8)
    · rw [if_neg e8] at h
      by_cases e9 : f = 9
      · rw [if_pos e9] at h
        obtain ⟨a, c, rfl⟩ := h
        exact okk_nums ho.dl ho.db
      · rw [if_neg e9] at h
        subst h
        obtain ⟨p0, p1⟩ := h6 (by omega)
        exact okk_num p0 (by omega)
theorem okk_msg {m : MM} {t : T} (hk : Fine m) (h : IsMsg m t) : Okk 8 t := by
  obtain ⟨a, c, u, rfl, hu, hx⟩ := h
  have hl := fK_len m
  refine okk_list (by simp; omega) (fun j hj => ?_)
  cases j with
  | zero => exact okk_num (by have := hk.kd; omega) (by have := hk.kd; omega)
  | succ j =>
    have hj : j < (fK m).length := by simp at hj; omega
    obtain ⟨f, e1, e2, e3, e4⟩ := hk.fs j hj
    have h2 := hx j hj
    rw [e1] at h2
    exact okk_field (g := 3) hk.ok e3 e4 e2 h2
theorem Sm.refl : ∀ (f : Nat) (t : T), Sm f t t
  | 0, _ => trivial
  | f + 1, t => ⟨rfl, rfl, rfl, rfl, fun j _ => Sm.refl f (t.m j)⟩
theorem Sm.symm : ∀ {f : Nat} {t u : T}, Sm f t u → Sm f u t
  | 0, _, _, _ => trivial
  | f + 1, _, _, ⟨h1, h2, h3, h4, h5⟩ => ⟨h1.symm, h2.symm, h3.symm, h4.symm, fun j hj => (h5 j (by omega)).symm⟩
theorem sm_list {f : Nat} {a a' : Option Addr} {c c' : Nat} {l l' : List T} (h : l.length = l'.length) (hl : ∀ j, j < l.length → Sm f (l.getD j T.zero) (l'.getD j T.zero)) : Sm (f + 1) (lT a c l) (lT a' c' l') :=
  ⟨rfl, rfl, rfl, h, hl⟩
theorem sm_nums {f : Nat} {a a' : Option Addr} {c c' : Nat} {xs ys : List Int} (h : Sm (f + 2) (lT a c (xs.map nT)) (lT a' c' (ys.map nT))) : xs = ys := by
  obtain ⟨_, _, _, h4, h5⟩ := h
  have hl : xs.length = ys.length := by
    have : (xs.map nT).length = (ys.map nT).length := h4
    simpa using this
  refine List.ext_getElem hl (fun j h1 h2 => ?_)
  have := (h5 j (by show j < (xs.map nT).length; simpa using h1)).2.1
  have e : ((xs.map nT).getD j T.zero).n = ((ys.map nT).getD j T.zero).n := this
  simpa [List.getD, h1, h2, nT, T.n] using e
theorem sm_mx {f : Nat} {t t' : T} {x x' : MX} (hx : IsMx t x) (hx' : IsMx t' x') (h : Sm (f + 3) t t') : x = x' := by
  obtain ⟨_, _, _, _, rfl⟩ := hx
  obtain ⟨_, _, _, _, rfl⟩ := hx'
  obtain ⟨_, _, _, _, h5⟩ := h
  have e0 := (h5 0 (by show 0 < 4; omega)).2.1
  have e1 := (h5 1 (by show 1 < 4; omega)).2.1
  have e2 := (h5 2 (by show 2 < 4; omega)).2.1
  have e3 := sm_nums (f := f) (h5 3 (by show 3 < 4; omega))
  obtain ⟨a, b, c, d⟩ := x
  obtain ⟨a', b', c', d'⟩ := x'
  have e0 : a = a' := e0
  have e1 : b = b' := e1
  have e2 : c = c' := e2
  have e3 : d = d' := e3
  subst e0 e1 e2 e3
  rfl
theorem sm_ms {f : Nat} {t t' : T} {l l' : List MX} (hx : IsMs t l) (hx' : IsMs t' l') (h : Sm (f + 4) t t') : l = l' := by
  obtain ⟨a, c, u, rfl, hu, hx⟩ := hx
  obtain ⟨a', c', u', rfl, hu', hx'⟩ := hx'
  obtain ⟨_, _, _, h4, h5⟩ := h
  have h4 : u.length = u'.length := h4
  have hl : l.length = l'.length := by omega
  refine List.ext_getElem hl (fun j h1 h2 => ?_)
  have := sm_mx (hx j h1) (hx' j h2) (h5 j (by show j < u.length; omega))
  simpa [mat, List.getD, h1, h2] using this
/-- Two messages have the same in a field. -/
def eqF (m m' : MM) (f : Nat) : Prop := if f = 7 then m.ws = m'.ws else if f = 8 then m.ms = m'.ms else if f = 9 then m.ds = m'.ds else nF m f = nF m' f
theorem sm_field {g f : Nat} {m m' : MM} {t t' : T} (h : IsF m f t) (h' : IsF m' f t') (hs : Sm (g + 4) t t') : eqF m m' f := by
  unfold IsF at h h'
  unfold eqF
  by_cases e7 : f = 7
  · rw [if_pos e7] at h h' ⊢
    obtain ⟨a, c, rfl⟩ := h
    obtain ⟨a', c', rfl⟩ := h'
    exact sm_nums hs
  · rw [if_neg e7] at h h' ⊢
    by_cases e8 : f = 8
    · rw [if_pos e8] at h h' ⊢
      exact sm_ms h h' hs
    · rw [if_neg e8] at h h' ⊢
      by_cases e9 : f = 9
      · rw [if_pos e9] at h h' ⊢
        obtain ⟨a, c, rfl⟩ := h
        obtain ⟨a', c', rfl⟩ := h'
        exact sm_nums hs
      · rw [if_neg e9] at h h' ⊢
        subst h h'
        exact hs.2.1
theorem eq_of_fields {m m' : MM} (hk : m.kd = m'.kd) (h : ∀ f, f < 10 → eqF m m' f) : m = m' := by
  have h0 : m.ep = m'.ep := h 0 (by omega)
  have h1 : m.lv = m'.lv := h 1 (by omega)
  have h2 : m.ce = m'.ce := h 2 (by omega)
  have h3 : m.qu = m'.qu := h 3 (by omega)
  have h4 : m.ve = m'.ve := h 4 (by omega)
  have h5 : m.ot = m'.ot := h 5 (by omega)
  have h6 : m.bk = m'.bk := h 6 (by omega)
  have h7 : m.ws = m'.ws := h 7 (by omega)
  have h8 : m.ms = m'.ms := h 8 (by omega)
  have h9 : m.ds = m'.ds := h 9 (by omega)
  cases m
  cases m'
  simp only at *
  subst hk h0 h1 h2 h3 h4 h5 h6 h7 h8 h9
  rfl
theorem zB_eq {m m' : MM} {f : Nat} (h : zB m f = true) (h' : zB m' f = true) : eqF m m' f := by
  unfold zB at h h'
  unfold eqF
  by_cases e7 : f = 7
  · rw [if_pos e7] at h h' ⊢
    simp at h h'
    rw [h, h']
  · rw [if_neg e7] at h h' ⊢
    by_cases e8 : f = 8
    · rw [if_pos e8] at h h' ⊢
      simp at h h'
      rw [h, h']
    · rw [if_neg e8] at h h' ⊢
      by_cases e9 : f = 9
      · rw [if_pos e9] at h h' ⊢
        simp at h h'
        rw [h, h']
      · rw [if_neg e9] at h h' ⊢
        have h := of_decide_eq_true h
        have h' := of_decide_eq_true h'
        rw [h, h']
theorem mayB_parts {m : MM} (h : mayB m = true) : (1 ≤ m.kd ∧ m.kd ≤ 4) ∧ ∀ f, f < 10 → tB m f = true := by
  unfold mayB at h
  rw [Bool.and_eq_true, List.all_eq_true] at h
  exact ⟨of_decide_eq_true h.1, fun f hf => h.2 f (by simpa using hf)⟩
theorem sm_msg {m m' : MM} {t t' : T} (hm : mayB m = true) (hm' : mayB m' = true) (h : IsMsg m t) (h' : IsMsg m' t') (hs : Sm 8 t t') : m = m' := by
  obtain ⟨a, c, u, rfl, hu, hx⟩ := h
  obtain ⟨a', c', u', rfl, hu', hx'⟩ := h'
  obtain ⟨_, _, _, h4, h5⟩ := hs
  have hk : m.kd = m'.kd := (h5 0 (by show 0 < (nT m.kd :: u).length; simp)).2.1
  have hf : fK m = fK m' := by unfold fK; rw [hk]
  refine eq_of_fields hk (fun f hf10 => ?_)
  have p := (mayB_parts hm).2 f hf10
  have p' := (mayB_parts hm').2 f hf10
  unfold tB at p p'
  change (if (fK m).contains (f : Int) then wB m f else zB m f) = true at p
  change (if (fK m').contains (f : Int) then wB m' f else zB m' f) = true at p'
  by_cases hc : (fK m).contains (f : Int) = true
  · obtain ⟨j, hj, e⟩ := List.getElem_of_mem (List.contains_iff_mem.1 hc)
    have e1 : (fK m).getD j 0 = (f : Int) := by simp [List.getD, hj, e]
    have i1 := hx j hj
    have i2 := hx' j (by rw [← hf]; exact hj)
    rw [← hf] at i2
    rw [e1] at i1 i2
    exact sm_field (g := 3) i1 i2 (h5 (j + 1) (by show j + 1 < (nT m.kd :: u).length; simp; omega))
  · have hc' : ¬ (fK m').contains (f : Int) = true := by rw [← hf]; exact hc
    rw [if_neg hc] at p
    rw [if_neg hc'] at p'
    exact zB_eq p p'
theorem smc_mx {f : Nat} {t t' : T} {x : MX} (hx : IsMx t x) (hx' : IsMx t' x) : Sm (f + 3) t t' := by
  obtain ⟨_, _, _, _, rfl⟩ := hx
  obtain ⟨_, _, _, _, rfl⟩ := hx'
  refine sm_list rfl (fun j hj => ?_)
  have hj : j < 4 := hj
  have : j = 0 ∨ j = 1 ∨ j = 2 ∨ j = 3 := by omega
  rcases this with rfl | rfl | rfl | rfl
  · exact Sm.refl _ _
  · exact Sm.refl _ _
  · exact Sm.refl _ _
  · exact sm_list rfl (fun i _ => Sm.refl _ _)
theorem smc_field {g f : Nat} {m : MM} {t t' : T} (h : IsF m f t) (h' : IsF m f t') : Sm (g + 4) t t' := by
  unfold IsF at h h'
  by_cases e7 : f = 7
  · rw [if_pos e7] at h h'
    obtain ⟨a, c, rfl⟩ := h
    obtain ⟨a', c', rfl⟩ := h'
    exact sm_list rfl (fun i _ => Sm.refl _ _)
  · rw [if_neg e7] at h h'
    by_cases e8 : f = 8
    · rw [if_pos e8] at h h'
      obtain ⟨a, c, u, rfl, hu, hx⟩ := h
      obtain ⟨a', c', u', rfl, hu', hx'⟩ := h'
      exact sm_list (by omega) (fun j hj => smc_mx (hx j (by omega)) (hx' j (by omega)))
    · rw [if_neg e8] at h h'
      by_cases e9 : f = 9
      · rw [if_pos e9] at h h'
        obtain ⟨a, c, rfl⟩ := h
        obtain ⟨a', c', rfl⟩ := h'
        exact sm_list rfl (fun i _ => Sm.refl _ _)
      · rw [if_neg e9] at h h'
        subst h h'
        exact Sm.refl _ _
theorem smc_msg {m : MM} {t t' : T} (h : IsMsg m t) (h' : IsMsg m t') : Sm 8 t t' := by
  obtain ⟨a, c, u, rfl, hu, hx⟩ := h
  obtain ⟨a', c', u', rfl, hu', hx'⟩ := h'
  refine sm_list (by simp; omega) (fun j hj => ?_)
  cases j with
  | zero => exact Sm.refl _ _
  | succ j =>
    have hj : j < (fK m).length := by simp at hj; omega
    exact smc_field (g := 3) (hx j hj) (hx' j hj)
theorem catE_congr' {Z Y : Nat → List UInt8} {m : Nat} (h : ∀ j, j < m → Z j = Y j) : catE Z m = catE Y m := by
  induction m with
  | zero => rfl
  | succ m ih => show catE Z m ++ Z m = catE Y m ++ Y m; rw [ih (fun j hj => h j (by omega)), h m (by omega)]
theorem encF_sm : ∀ (f : Nat) {t u : T}, Sm f t u → encF f t = encF f u
  | 0, _, _, _ => rfl
  | f + 1, t, u, ⟨h1, h2, h3, h4, h5⟩ => by
    unfold encF
    rw [h1, h2, h3, h4, catE_congr' (fun j hj => encF_sm f (h5 j (by omega)))]
theorem catE_two {Z : Nat → List UInt8} {i j n : Nat} (h : i < j) (hn : j < n) : (Z i).length + (Z j).length ≤ (catE Z n).length := by
  have h1 := catE_mono Z (show i + 1 ≤ j by omega)
  have h2 := catE_mono Z (show j + 1 ≤ n by omega)
  have e1 : (catE Z (i + 1)).length = (catE Z i).length + (Z i).length := by show (catE Z i ++ Z i).length = _; rw [List.length_append]
  have e2 : (catE Z (j + 1)).length = (catE Z j).length + (Z j).length := by show (catE Z j ++ Z j).length = _; rw [List.length_append]
  omega
theorem catE_ge {Z : Nat → List UInt8} {F : Nat → Nat} {n : Nat} (h : ∀ j, j < n → F j ≤ (Z j).length) : ∀ (G : Nat → Nat), G 0 = 0 → (∀ j, j < n → G (j + 1) ≤ G j + F j) → G n ≤ (catE Z n).length := by
  intro G h0 hG
  induction n with
  | zero => rw [h0]; exact Nat.zero_le _
  | succ n ih =>
    have := ih (fun j hj => h j (by omega)) (fun j hj => hG j (by omega))
    have := hG n (by omega)
    have := h n (by omega)
    show _ ≤ (catE Z n ++ Z n).length
    rw [List.length_append]
    omega
theorem enc_list (f : Nat) (a : Option Addr) (c : Nat) (l : List T) : encF (f + 1) (lT a c l) = 3 :: (numD l.length ++ catE (fun j => encF f (l.getD j T.zero)) l.length) := by
  show (if (3 : Int) = 1 then _ else if (3 : Int) = 2 then _ else _) = _
  rw [if_neg (by decide), if_neg (by decide)]
  rfl
theorem enc_nums (f : Nat) (a : Option Addr) (c : Nat) (xs : List Int) : 2 * xs.length ≤ (encF (f + 2) (lT a c (xs.map nT))).length := by
  rw [enc_list]
  have hl : (xs.map nT).length = xs.length := List.length_map ..
  rw [hl]
  have := catE_ge (Z := fun j => encF (f + 1) ((xs.map nT).getD j T.zero)) (F := fun _ => 2) (n := xs.length) (fun j hj => by
    rw [show (xs.map nT).getD j T.zero = nT (xs.getD j 0) by simp [List.getD, hj]]
    show 2 ≤ (1 :: numD _).length
    have := (numD_len (nT (xs.getD j 0)).n.toNat).1
    rw [List.length_cons]
    omega) (fun j => 2 * j) rfl (fun j _ => by show 2 * (j + 1) ≤ 2 * j + 2; omega)
  simp only [List.length_cons, List.length_append]
  omega
theorem enc_ms {f : Nat} {t : T} {l : List MX} (h : IsMs t l) : 2 * sumD l l.length ≤ (encF (f + 4) t).length := by
  obtain ⟨a, c, u, rfl, hu, hx⟩ := h
  rw [enc_list]
  have := catE_ge (Z := fun j => encF (f + 3) (u.getD j T.zero)) (F := fun j => 2 * (mat l j).ds.length) (n := u.length) (fun j hj => by
    obtain ⟨a2, c2, a3, c3, e⟩ := hx j (by omega)
    rw [e, enc_list]
    have h1 := enc_nums f a3 c3 (mat l j).ds
    have h2 := catE_two (Z := fun i => encF (f + 2) ([nT (mat l j).lv, nT (mat l j).ce, nT (mat l j).ep, lT a3 c3 ((mat l j).ds.map nT)].getD i T.zero)) (i := 0) (j := 3) (n := 4) (by omega) (by omega)
    have h3 := Nat.le_trans (Nat.le_add_left _ _) h2
    have h4 : (encF (f + 2) (lT a3 c3 ((mat l j).ds.map nT))).length ≤ (catE (fun i => encF (f + 2) ([nT (mat l j).lv, nT (mat l j).ce, nT (mat l j).ep, lT a3 c3 ((mat l j).ds.map nT)].getD i T.zero)) 4).length := h3
    show _ ≤ (3 :: (numD 4 ++ catE (fun i => encF (f + 2) ([nT (mat l j).lv, nT (mat l j).ce, nT (mat l j).ep, lT a3 c3 ((mat l j).ds.map nT)].getD i T.zero)) 4)).length
    simp only [List.length_cons, List.length_append]
    omega) (fun j => 2 * sumD l j) rfl (fun j _ => by show 2 * (sumD l j + _) ≤ _; omega)
  simp only [List.length_cons, List.length_append]
  rw [hu] at this ⊢
  omega
end Go.Proofs.YtchmiiclogmheaaDoor.C2
namespace Go.Proofs.YtchmiiclogmheaaDoor.C2
open Go.RowKit
/-- What lies in memory is within its type. -/
structure Rng (m : MM) : Prop where
  wb : ∀ j, j < m.ws.length → 0 ≤ m.ws.getD j 0 ∧ m.ws.getD j 0 ≤ 4294967295
  db : ∀ j, j < m.ds.length → 0 ≤ m.ds.getD j 0 ∧ m.ds.getD j 0 ≤ 18446744073709551615
  mb : ∀ j, j < m.ms.length → ∀ i, i < (mat m.ms j).ds.length → 0 ≤ (mat m.ms j).ds.getD i 0 ∧ (mat m.ms j).ds.getD i 0 ≤ 18446744073709551615
theorem fl_le (i : Nat) : ∀ x ∈ fl i, 0 ≤ x ∧ x ≤ 9 := by
  unfold fl
  split <;> decide
theorem wB_bound {m : MM} {f : Nat} (hf : f ≤ 6) (h : wB m f = true) : 0 ≤ nF m f ∧ nF m f ≤ 1073741824 := by
  unfold wB at h
  rw [if_neg (by omega), if_neg (by omega), Bool.and_eq_true] at h
  have h1 := of_decide_eq_true h.1
  have h2 := of_decide_eq_true h.2
  unfold mo at h2
  split at h2 <;> omega
theorem out_ok {x : MX} (h : outB x = false) : (0 ≤ x.lv ∧ x.lv ≤ 1073741824) ∧ (0 ≤ x.ce ∧ x.ce ≤ 1073741824) ∧ (0 ≤ x.ep ∧ x.ep ≤ 1073741824) := by
  unfold outB at h
  have := of_decide_eq_false h
  omega
theorem fine_of {m : MM} (hr : Rng m) (hl : longM m = false) (hm : mayB m = true) : Fine m := by
  obtain ⟨l1, l2, l3, l4⟩ := longM_no hl
  obtain ⟨hk, hf⟩ := mayB_parts hm
  refine ⟨hk, ⟨l1, l2, l3, hr.wb, hr.db⟩, fun j hj => ?_⟩
  have hmem : (fK m)[j] ∈ fK m := List.getElem_mem _
  obtain ⟨b0, b9⟩ := fl_le _ _ hmem
  obtain ⟨f, e⟩ := Int.eq_ofNat_of_zero_le b0
  have hc : (fl m.kd.toNat).contains (f : Int) = true := by
    rw [List.contains_iff_mem, ← e]
    exact hmem
  have ht := hf f (by omega)
  unfold tB at ht
  rw [if_pos hc] at ht
  refine ⟨f, by rw [← e]; simp [List.getD, hj], by omega, fun e8 => ?_, fun h6 => by have := wB_bound h6 ht; omega⟩
  subst e8
  have ha : m.ms.any outB = false := by
    have : wB m 8 = !(m.ms.any outB) := rfl
    rw [this] at ht
    simpa using ht
  intro i hi
  have h2 := (List.any_eq_false.1 ha) (mat m.ms i) (by unfold mat; simp [List.getD, hi])
  have h3 := out_ok (by simpa using h2)
  exact ⟨by omega, l4 i hi, hr.mb i hi⟩
/-- A message as an item that lies nowhere. -/
def pX (x : MX) : T := lT none 0 [nT x.lv, nT x.ce, nT x.ep, lT none 0 (x.ds.map nT)]
def pF (m : MM) (f : Int) : T := if f = 7 then lT none 0 (m.ws.map nT) else if f = 8 then lT none 0 (m.ms.map pX) else if f = 9 then lT none 0 (m.ds.map nT) else nT (nF m f.toNat)
def pT (m : MM) : T := lT none 0 (nT m.kd :: (fK m).map (pF m))
theorem pF_is {m : MM} {f : Int} (h0 : 0 ≤ f) (h9 : f ≤ 9) : IsF m f.toNat (pF m f) := by
  obtain ⟨n, rfl⟩ := Int.eq_ofNat_of_zero_le h0
  unfold IsF pF
  rw [Int.toNat_natCast]
  by_cases e7 : n = 7
  · subst e7
    exact ⟨_, _, rfl⟩
  · rw [if_neg e7, if_neg (show ¬ (n : Int) = 7 by omega)]
    by_cases e8 : n = 8
    · subst e8
      refine ⟨_, _, _, rfl, by simp, fun j hj => ?_⟩
      refine ⟨none, 0, none, 0, ?_⟩
      unfold mat
      simp [List.getD, hj, pX]
    · rw [if_neg e8, if_neg (show ¬ (n : Int) = 8 by omega)]
      by_cases e9 : n = 9
      · subst e9
        exact ⟨_, _, rfl⟩
      · rw [if_neg e9, if_neg (show ¬ (n : Int) = 9 by omega)]
theorem pT_is (m : MM) : IsMsg m (pT m) := by
  refine ⟨_, _, _, rfl, by simp, fun j hj => ?_⟩
  have hmem : (fK m)[j] ∈ fK m := List.getElem_mem _
  obtain ⟨b0, b9⟩ := fl_le _ _ hmem
  have e : (fK m).getD j 0 = (fK m)[j] := by simp [List.getD, hj]
  rw [e, show ((fK m).map (pF m)).getD j T.zero = pF m (fK m)[j] by simp [List.getD, hj]]
  exact pF_is b0 b9
/-- A message's bytes. -/
def bytesM (m : MM) : List UInt8 := encF 8 (pT m)
theorem bytes_of {m : MM} {t : T} (h : IsMsg m t) : encF 8 t = bytesM m := encF_sm 8 (smc_msg h (pT_is m))
/-- What Encode answers. -/
def mE (m : MM) : List UInt8 × Int := if longM m = true then ([], 2) else if mayB m = false then ([], 200) else if 262144 < (bytesM m).length then ([], 2) else (bytesM m, 0)
theorem zB_len {m : MM} (hm : mayB m = true) {f : Nat} (hf : f < 10) (hc : (fK m).contains (f : Int) = false) : zB m f = true := by
  have := (mayB_parts hm).2 f hf
  unfold tB at this
  change (if (fK m).contains (f : Int) then wB m f else zB m f) = true at this
  rw [hc] at this
  simpa using this
theorem enc_at {m : MM} {j : Nat} (hj : j < (fK m).length) : (encF 7 (pF m ((fK m).getD j 0))).length ≤ (bytesM m).length := by
  have e : bytesM m = _ := enc_list 7 none 0 (nT m.kd :: (fK m).map (pF m))
  rw [e]
  have h1 := catE_two (Z := fun i => encF 7 ((nT m.kd :: (fK m).map (pF m)).getD i T.zero)) (i := 0) (j := j + 1) (n := (nT m.kd :: (fK m).map (pF m)).length) (by omega) (by simp; omega)
  have h2 : (nT m.kd :: (fK m).map (pF m)).getD (j + 1) T.zero = pF m ((fK m).getD j 0) := by simp [List.getD, hj]
  simp only [h2] at h1
  rw [List.length_cons, List.length_append]
  omega
theorem least_le {m : MM} (hm : mayB m = true) : leastN m ≤ (bytesM m).length := by
  obtain ⟨hk1, hk4⟩ := (mayB_parts hm).1
  have hk : m.kd = 1 ∨ m.kd = 2 ∨ m.kd = 3 ∨ m.kd = 4 := by omega
  have z := fun f hf hc => zB_len hm (f := f) hf hc
  have w7 : zB m 7 = true → m.ws.length = 0 := fun h => by
    have h := of_decide_eq_true (show decide ((m.ws.length : Int) = 0) = true from h)
    omega
  have w8 : zB m 8 = true → m.ms.length = 0 := fun h => by
    have h := of_decide_eq_true (show decide ((m.ms.length : Int) = 0) = true from h)
    omega
  have w9 : zB m 9 = true → m.ds.length = 0 := fun h => by
    have h := of_decide_eq_true (show decide ((m.ds.length : Int) = 0) = true from h)
    omega
  have s0 : m.ms.length = 0 → sumD m.ms m.ms.length = 0 := fun h => by rw [h]; rfl
  unfold leastN
  rcases hk with hk | hk | hk | hk
  · have hf : fK m = [0, 1, 2, 7, 8] := by unfold fK; rw [hk]; rfl
    have h9 := w9 (z 9 (by omega) (by rw [hf]; decide))
    have e : bytesM m = _ := enc_list 7 none 0 (nT m.kd :: (fK m).map (pF m))
    rw [e, hf]
    have h1 := catE_two (Z := fun i => encF 7 ((nT m.kd :: [0, 1, 2, 7, 8].map (pF m)).getD i T.zero)) (i := 4) (j := 5) (n := 6) (by omega) (by omega)
    have h2 : 2 * m.ws.length ≤ (encF 7 (lT none 0 (m.ws.map nT))).length := enc_nums 5 none 0 m.ws
    have h3 : 2 * sumD m.ms m.ms.length ≤ (encF 7 (pF m 8)).length := enc_ms (f := 3) (pF_is (m := m) (f := 8) (by omega) (by omega) : IsMs _ _)
    have h4 : (encF 7 (lT none 0 (m.ws.map nT))).length + (encF 7 (pF m 8)).length ≤ (catE (fun i => encF 7 ((nT m.kd :: [0, 1, 2, 7, 8].map (pF m)).getD i T.zero)) 6).length := h1
    show _ ≤ (3 :: (numD 6 ++ catE (fun i => encF 7 ((nT m.kd :: [0, 1, 2, 7, 8].map (pF m)).getD i T.zero)) 6)).length
    rw [List.length_cons, List.length_append]
    omega
  · have hf : fK m = [0, 1, 2, 9] := by unfold fK; rw [hk]; rfl
    have h7 := w7 (z 7 (by omega) (by rw [hf]; decide))
    have h8 := s0 (w8 (z 8 (by omega) (by rw [hf]; decide)))
    have h1 := enc_at (m := m) (j := 3) (by rw [hf]; decide)
    rw [hf] at h1
    have h2 : 2 * m.ds.length ≤ (encF 7 (lT none 0 (m.ds.map nT))).length := enc_nums 5 none 0 m.ds
    have h3 : (encF 7 (lT none 0 (m.ds.map nT))).length ≤ (bytesM m).length := h1
    omega
  · have hf : fK m = [3, 0, 4, 5, 6, 7] := by unfold fK; rw [hk]; rfl
    have h9 := w9 (z 9 (by omega) (by rw [hf]; decide))
    have h8 := s0 (w8 (z 8 (by omega) (by rw [hf]; decide)))
    have h1 := enc_at (m := m) (j := 5) (by rw [hf]; decide)
    rw [hf] at h1
    have h2 : 2 * m.ws.length ≤ (encF 7 (lT none 0 (m.ws.map nT))).length := enc_nums 5 none 0 m.ws
    have h3 : (encF 7 (lT none 0 (m.ws.map nT))).length ≤ (bytesM m).length := h1
    omega
  · have hf : fK m = [3, 0, 6, 9] := by unfold fK; rw [hk]; rfl
    have h7 := w7 (z 7 (by omega) (by rw [hf]; decide))
    have h8 := s0 (w8 (z 8 (by omega) (by rw [hf]; decide)))
    have h1 := enc_at (m := m) (j := 3) (by rw [hf]; decide)
    rw [hf] at h1
    have h2 : 2 * m.ds.length ≤ (encF 7 (lT none 0 (m.ds.map nT))).length := enc_nums 5 none 0 m.ds
    have h3 : (encF 7 (lT none 0 (m.ds.map nT))).length ≤ (bytesM m).length := h1
    omega
end Go.Proofs.YtchmiiclogmheaaDoor.C2
