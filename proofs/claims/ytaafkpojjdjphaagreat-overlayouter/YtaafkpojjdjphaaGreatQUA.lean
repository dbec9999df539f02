import Derived.Test.YtaafkpojjdjphaaGreatQAA
import Derived.Test.YtaafkpojjdjphaaGreatQND
import Derived.Deep.AppendLies
import Derived.Lib.OwnKind
import Derived.Deep.DeepMust
open Go.Lib (hid)
namespace Go.Proofs.YtaafkpojjdjphaaGreat
open Go.RowKit
open N5 (Wk IsD src dst sat Inf)
structure Srh (l : List N5.A) (s : Nat) (F : Nat → Int) (op : Nat → Prop) (pe : N5.A → Prop) : Prop where
 lo : ∀ v, 0 ≤ F v
 hi : ∀ v, F v ≤ Inf
 wk : ∀ v, F v < Inf → Wk l (fun _ => true) s v (F v)
 opn : ∀ v, op v → F v < Inf
 st : ∀ x ∈ l, ¬ pe x → F (src x) < Inf → ¬ op (src x) → F (dst x) ≤ F (src x) + x.w
 mono : ∀ u v, F u < Inf → ¬ op u → op v → F u ≤ F v
 s0 : F s ≤ 0
theorem Srh.begin (l : List N5.A) (s : Nat) : Srh l s (N5.updI (fun _ => Inf) s 0) (fun u => u = s) (fun _ => False) := by
 have hI : (0 : Int) < Inf := by unfold Inf; omega
 have hne : ∀ v, v ≠ s → N5.updI (fun _ => Inf) s 0 v = Inf := fun v h => N5.updI_ne _ _ h
 have hse : N5.updI (fun _ => Inf) s 0 s = 0 := N5.updI_self _ _ _
 have hfin : ∀ v, N5.updI (fun _ => Inf) s 0 v < Inf → v = s := fun v h => Classical.byContradiction fun e => by rw [hne v e] at h; omega
 refine ⟨fun v => ?_, fun v => ?_, fun v h => ?_, fun v h => ?_, fun x _ _ h1 h2 => absurd (hfin _ h1) h2, fun u v h1 h2 _ => absurd (hfin _ h1) h2, by rw [hse]; exact Int.le_refl _⟩
 ·by_cases e : v = s
  ·rw [e, hse]; exact Int.le_refl _
  ·rw [hne v e]; omega
 ·by_cases e : v = s
  ·rw [e, hse]; omega
  ·rw [hne v e]; exact Int.le_refl _
 ·rw [hfin v h, hse]; exact Wk.nil rfl
 ·rw [h, hse]; exact hI
structure SrM (l : List N5.A) (s : Nat) (F : Nat → Int) (op : Nat → Prop) (v : Nat) (d : Int) (pe : N5.A → Prop) : Prop where
 inv : Srh l s F op pe
 at_ : F v = d
 fin : d < Inf
 out : ¬ op v
 low : ∀ u, F u < Inf → ¬ op u → F u ≤ d
 up : ∀ u, op u → d ≤ F u
theorem Srh.pop {l : List N5.A} {s : Nat} {F : Nat → Int} {op : Nat → Prop} (h : Srh l s F op (fun _ => False)) {v : Nat} (hv : op v) (hm : ∀ u, op u → F v ≤ F u) : SrM l s F (fun u => op u ∧ u ≠ v) v (F v) (fun x => src x = v) := by
 have hc : ∀ u, ¬ (op u ∧ u ≠ v) → u = v ∨ ¬ op u := fun u hu => by
  by_cases e : u = v
  ·exact Or.inl e
  ·exact Or.inr fun ho => hu ⟨ho, e⟩
 refine ⟨⟨h.lo, h.hi, h.wk, fun u hu => h.opn u hu.1, fun x hx hp h1 h2 => ?_, fun u w h1 h2 h3 => ?_, h.s0⟩, rfl, h.opn v hv, fun h => h.2 rfl, fun u h1 h2 => ?_, fun u hu => hm u hu.1⟩
 ·rcases hc _ h2 with e | e
  ·exact absurd e hp
  ·exact h.st x hx (fun h => h) h1 e
 ·rcases hc _ h2 with e | e
  ·rw [e]; exact hm w h3.1
  ·exact h.mono u w h1 e h3.1
 ·rcases hc _ h2 with e | e
  ·rw [e]; exact Int.le_refl _
  ·exact h.mono u v h1 e hv
theorem SrM.skip {l : List N5.A} {s : Nat} {F : Nat → Int} {op : Nat → Prop} {v : Nat} {d : Int} {pe pf : N5.A → Prop} (h : SrM l s F op v d pe) {x : N5.A} (hs : src x = v) (hp : ∀ y, pe y → y = x ∨ pf y) (hx : F (dst x) ≤ sat d x.w) : SrM l s F op v d pf :=
 ⟨⟨h.inv.lo, h.inv.hi, h.inv.wk, h.inv.opn, fun y hy hn h1 h2 => by
  by_cases e : y = x
  ·subst e
   rw [hs, h.at_]
   have := N5.sat_le d y.w
   omega
  ·exact h.inv.st y hy (fun hq => (hp y hq).elim e hn) h1 h2, h.inv.mono, h.inv.s0⟩, h.at_, h.fin, h.out, h.low, h.up⟩
theorem SrM.open_or {l : List N5.A} {s : Nat} {F : Nat → Int} {op : Nat → Prop} {v : Nat} {d : Int} {pe : N5.A → Prop} (h : SrM l s F op v d pe) {u : Nat} {k : Int} (hk : d ≤ k) (hu : k < F u) : F u = Inf ∧ ¬ op u ∨ F u < Inf ∧ op u := by
 have h1 := h.inv.hi u
 by_cases e : F u < Inf
 ·refine Or.inr ⟨e, Classical.byContradiction fun ho => ?_⟩
  have := h.low u e ho
  omega
 ·exact Or.inl ⟨by omega, fun ho => e (h.inv.opn u ho)⟩
theorem SrM.take {l : List N5.A} {s : Nat} {F : Nat → Int} {op : Nat → Prop} {v : Nat} {d : Int} {pe pf : N5.A → Prop} (h : SrM l s F op v d pe) {x : N5.A} (hm : x ∈ l) (hw : 0 ≤ x.w) (hs : src x = v) (hp : ∀ y, pe y → y = x ∨ pf y) (hx : sat d x.w < F (dst x)) : SrM l s (N5.updI F (dst x) (sat d x.w)) (fun u => op u ∨ u = dst x) v d pf := by
 have h1 := h.inv.hi (dst x)
 have hsat := N5.sat_lt (show sat d x.w < Inf by omega)
 rw [hsat] at hx ⊢
 have hne : v ≠ dst x := fun e => by rw [← e, h.at_] at hx; omega
 have hd0 : 0 ≤ d := by have := h.inv.lo v; rw [h.at_] at this; exact this
 have hu : ∀ u, u ≠ dst x → N5.updI F (dst x) (d + x.w) u = F u := fun u e => N5.updI_ne _ _ e
 have hx2 : N5.updI F (dst x) (d + x.w) (dst x) = d + x.w := N5.updI_self _ _ _
 have hle : ∀ u, N5.updI F (dst x) (d + x.w) u ≤ F u := fun u => by
  by_cases e : u = dst x
  ·rw [e, hx2]; omega
  ·rw [hu u e]; exact Int.le_refl _
 refine ⟨⟨fun u => ?_, fun u => ?_, fun u hf => ?_, fun u ho => ?_, fun y hy hn hf ho => ?_, fun a b hf ho hb => ?_, ?_⟩, by rw [hu v hne]; exact h.at_, h.fin, ?_, fun u hf ho => ?_, fun u ho => ?_⟩
 ·by_cases e : u = dst x
  ·rw [e, hx2]; omega
  ·rw [hu u e]; exact h.inv.lo u
 ·have := hle u
  have := h.inv.hi u
  omega
 ·by_cases e : u = dst x
  ·rw [e, hx2]
   refine Wk.snoc hm ?_ rfl
   rw [hs, ← h.at_]
   exact h.inv.wk v (by rw [h.at_]; exact h.fin)
  ·rw [hu u e] at hf ⊢
   exact h.inv.wk u hf
 ·by_cases e : u = dst x
  ·rw [e, hx2]; omega
  ·rw [hu u e]; exact h.inv.opn u (ho.resolve_right e)
 ·have e : src y ≠ dst x := fun e => ho (Or.inr e)
  rw [hu _ e] at hf ⊢
  by_cases e2 : y = x
  ·subst e2
   rw [hx2, hs, h.at_]
   exact Int.le_refl _
  ·have := h.inv.st y hy (fun hq => (hp y hq).elim e2 hn) hf (fun h => ho (Or.inl h))
   have := hle (dst y)
   omega
 ·have e : a ≠ dst x := fun e => ho (Or.inr e)
  rw [hu _ e] at hf ⊢
  by_cases e2 : b = dst x
  ·rw [e2, hx2]
   have := h.low a hf (fun h => ho (Or.inl h))
   omega
  ·rw [hu _ e2]
   exact h.inv.mono a b hf (fun h => ho (Or.inl h)) (hb.resolve_right e2)
 ·have := hle s
  have := h.inv.s0
  omega
 ·rintro (ho | e)
  ·exact h.out ho
  ·exact hne e
 ·have e : u ≠ dst x := fun e => ho (Or.inr e)
  rw [hu _ e] at hf ⊢
  exact h.low u hf (fun h => ho (Or.inl h))
 ·by_cases e : u = dst x
  ·rw [e, hx2]; omega
  ·rw [hu _ e]; exact h.up u (ho.resolve_right e)
theorem SrM.done {l : List N5.A} {s : Nat} {F : Nat → Int} {op : Nat → Prop} {v : Nat} {d : Int} {pe : N5.A → Prop} (h : SrM l s F op v d pe) (hp : ∀ x ∈ l, ¬ pe x) : Srh l s F op (fun _ => False) :=
 ⟨h.inv.lo, h.inv.hi, h.inv.wk, h.inv.opn, fun x hx _ h1 h2 => h.inv.st x hx (hp x hx) h1 h2, h.inv.mono, h.inv.s0⟩
theorem Srh.isD {l : List N5.A} {s : Nat} {F : Nat → Int} {op : Nat → Prop} (h : Srh l s F op (fun _ => False)) (hw : ∀ x ∈ l, 0 ≤ x.w) (ho : ∀ u, ¬ op u) : IsD l (fun _ => true) s F := by
 refine ⟨h.lo, h.hi, h.wk, fun v d hk => ?_⟩
 induction hk with
 | nil _ => exact h.s0
 | snoc hx _ _ ih =>
   rename_i x d _ _
   by_cases e : F (src x) < Inf
   ·have := h.st x hx (fun h => h) e (ho _)
    omega
   ·have := h.hi (dst x)
    have := hw x hx
    omega
def nrI (F : Nat → Int) (o : List Nat) : Nat → Nat
 | 0 => 0
 | k + 1 => if F (o.getD k 0) < F (o.getD (nrI F o k) 0) then k else nrI F o k
theorem nrI_lt (F : Nat → Int) (o : List Nat) (k : Nat) (h : 0 < k) : nrI F o k < k := by
 induction k with
 | zero => omega
 | succ k ih =>
   unfold nrI
   split
   ·omega
   ·by_cases e : k = 0
    ·subst e; unfold nrI; omega
    ·have := ih (by omega); omega
theorem nrI_le (F : Nat → Int) (o : List Nat) (k : Nat) : ∀ j, j < k → F (o.getD (nrI F o k) 0) ≤ F (o.getD j 0) := by
 induction k with
 | zero => intro j h; omega
 | succ k ih =>
   intro j hj
   unfold nrI
   by_cases e : j = k
   ·subst e
    split
    ·exact Int.le_refl _
    ·omega
   ·have := ih j (by omega)
    split
    ·omega
    ·exact this
def tkO (o : List Nat) (i : Nat) : List Nat := (o.set i (o.getD (o.length - 1) 0)).take (o.length - 1)
theorem tkO_length (o : List Nat) (i : Nat) : (tkO o i).length = o.length - 1 := by simp [tkO]
theorem tkO_getD (o : List Nat) (i j : Nat) (hj : j < o.length - 1) : (tkO o i).getD j 0 = if j = i then o.getD (o.length - 1) 0 else o.getD j 0 := by
 unfold tkO
 rw [List.getD_eq_getElem?_getD, List.getElem?_take_of_lt hj, List.getElem?_set]
 by_cases e : j = i
 ·subst e
  rw [if_pos rfl, if_pos rfl, if_pos (by omega)]
  rfl
 ·rw [if_neg (fun h => e h.symm), if_neg e, List.getD_eq_getElem?_getD]
theorem mem_getD {o : List Nat} {x : Nat} : x ∈ o ↔ ∃ j, j < o.length ∧ o.getD j 0 = x := by
 constructor
 ·intro h
  obtain ⟨j, hj, e⟩ := List.getElem_of_mem h
  exact ⟨j, hj, by rw [List.getD_eq_getElem?_getD, List.getElem?_eq_getElem hj]; simpa using e⟩
 ·rintro ⟨j, hj, e⟩
  rw [List.getD_eq_getElem?_getD, List.getElem?_eq_getElem hj] at e
  rw [← e]
  simp
def Onc (o : List Nat) : Prop := ∀ i j, i < o.length → j < o.length → o.getD i 0 = o.getD j 0 → i = j
theorem tkO_mem {o : List Nat} (h : Onc o) {i : Nat} (hi : i < o.length) (x : Nat) : x ∈ tkO o i ↔ x ∈ o ∧ x ≠ o.getD i 0 := by
 rw [mem_getD, mem_getD, tkO_length]
 constructor
 ·rintro ⟨j, hj, e⟩
  rw [tkO_getD o i j hj] at e
  by_cases ej : j = i
  ·rw [if_pos ej] at e
   refine ⟨⟨_, by omega, e⟩, fun hx => ?_⟩
   have := h (o.length - 1) i (by omega) hi (e.trans hx)
   omega
  ·rw [if_neg ej] at e
   exact ⟨⟨j, by omega, e⟩, fun hx => ej (h j i (by omega) hi (e.trans hx))⟩
 ·rintro ⟨⟨j, hj, e⟩, hx⟩
  have ej : j ≠ i := fun e2 => hx (by rw [← e, e2])
  by_cases el : j = o.length - 1
  ·refine ⟨i, by omega, ?_⟩
   rw [tkO_getD o i i (by omega), if_pos rfl, ← el]
   exact e
  ·refine ⟨j, by omega, ?_⟩
   rw [tkO_getD o i j (by omega), if_neg ej]
   exact e
theorem tkO_onc {o : List Nat} (h : Onc o) {i : Nat} (hi : i < o.length) : Onc (tkO o i) := by
 intro a b ha hb e
 rw [tkO_length] at ha hb
 rw [tkO_getD o i a ha, tkO_getD o i b hb] at e
 by_cases ea : a = i
 ·by_cases eb : b = i
  ·omega
  ·rw [if_pos ea, if_neg eb] at e
   have := h _ _ (by omega) (by omega) e
   omega
 ·by_cases eb : b = i
  ·rw [if_neg ea, if_pos eb] at e
   have := h _ _ (by omega) (by omega) e
   omega
  ·rw [if_neg ea, if_neg eb] at e
   exact h _ _ (by omega) (by omega) e
theorem onc_snoc {o : List Nat} (h : Onc o) {x : Nat} (hx : x ∉ o) : Onc (o ++ [x]) := by
 have g1 : ∀ i, i < o.length → (o ++ [x]).getD i 0 = o.getD i 0 := fun i hi => by
  rw [List.getD_eq_getElem?_getD, List.getElem?_append_left hi, List.getD_eq_getElem?_getD]
 have g2 : (o ++ [x]).getD o.length 0 = x := by
  rw [List.getD_eq_getElem?_getD, List.getElem?_append_right (Nat.le_refl _)]
  simp
 have hl : (o ++ [x]).length = o.length + 1 := by simp
 intro i j hi hj e
 rw [hl] at hi hj
 by_cases ei : i = o.length
 ·by_cases ej : j = o.length
  ·omega
  ·subst ei
   rw [g2, g1 j (by omega)] at e
   exact absurd (mem_getD.2 ⟨j, by omega, e.symm⟩) hx
 ·by_cases ej : j = o.length
  ·subst ej
   rw [g2, g1 i (by omega)] at e
   exact absurd (mem_getD.2 ⟨i, by omega, e⟩) hx
  ·rw [g1 i (by omega), g1 j (by omega)] at e
   exact h i j (by omega) (by omega) e
theorem onc_one (x : Nat) : Onc [x] := by
 intro i j hi hj _
 simp at hi hj
 omega
theorem Srh.near {l : List N5.A} {s : Nat} {F : Nat → Int} {o : List Nat} (h : Srh l s F (fun u => u ∈ o) (fun _ => False)) (ho : Onc o) (h0 : 0 < o.length) : SrM l s F (fun u => u ∈ tkO o (nrI F o o.length)) (o.getD (nrI F o o.length) 0) (F (o.getD (nrI F o o.length) 0)) (fun x => src x = o.getD (nrI F o o.length) 0) := by
 have hi := nrI_lt F o o.length h0
 have hp := h.pop (v := o.getD (nrI F o o.length) 0) (mem_getD.2 ⟨_, hi, rfl⟩) (fun u hu => by
  obtain ⟨j, hj, e⟩ := mem_getD.1 hu
  rw [← e]
  exact nrI_le F o o.length j hj)
 have e : (fun u => u ∈ tkO o (nrI F o o.length)) = (fun u => u ∈ o ∧ u ≠ o.getD (nrI F o o.length) 0) := funext fun u => propext (tkO_mem ho hi u)
 rw [e]
 exact hp
def rdS (d : Int) (S : (Nat → Int) × List Nat) (x : N5.A) : (Nat → Int) × List Nat :=
 if S.1 (dst x) ≤ sat d x.w then S else (N5.updI S.1 (dst x) (sat d x.w), if S.1 (dst x) = Inf then S.2 ++ [dst x] else S.2)
def rdL (d : Int) (r : List N5.A) (S : (Nat → Int) × List Nat) : (Nat → Int) × List Nat := r.foldl (rdS d) S
theorem rdL_snoc (d : Int) (r : List N5.A) (x : N5.A) (S : (Nat → Int) × List Nat) : rdL d (r ++ [x]) S = rdS d (rdL d r S) x := by simp [rdL]
def niF (n : Nat) (F : Nat → Int) : Nat := ((List.range n).filter fun u => decide (F u = Inf)).length
theorem niF_succ (n : Nat) (F : Nat → Int) : niF (n + 1) F = niF n F + if F n = Inf then 1 else 0 := by
 unfold niF
 rw [List.range_succ, List.filter_append, List.length_append]
 by_cases h : F n = Inf <;> simp [h]
theorem niF_upd (n : Nat) (F : Nat → Int) (x : Nat) (k : Int) (hk : k ≠ Inf) : niF n (N5.updI F x k) + (if x < n ∧ F x = Inf then 1 else 0) = niF n F := by
 induction n with
 | zero => simp [niF]
 | succ n ih =>
   rw [niF_succ, niF_succ]
   by_cases e : n = x
   ·subst e
    rw [N5.updI_self, if_neg hk]
    rw [if_neg (by omega)] at ih
    by_cases h : F n = Inf
    ·rw [if_pos ⟨by omega, h⟩, if_pos h]; omega
    ·rw [if_neg (fun q => h q.2), if_neg h]; omega
   ·rw [N5.updI_ne _ _ e]
    have ec : (if x < n + 1 ∧ F x = Inf then (1 : Nat) else 0) = if x < n ∧ F x = Inf then 1 else 0 := by
     by_cases h : x < n ∧ F x = Inf
     ·rw [if_pos h, if_pos (show x < n + 1 ∧ F x = Inf from ⟨by omega, h.2⟩)]
     ·rw [if_neg h, if_neg (show ¬ (x < n + 1 ∧ F x = Inf) from fun q => h ⟨by omega, q.2⟩)]
    rw [ec]
    omega
theorem SrM.step {l : List N5.A} {s : Nat} {S : (Nat → Int) × List Nat} {v : Nat} {d : Int} {pe pf : N5.A → Prop} (h : SrM l s S.1 (fun u => u ∈ S.2) v d pe) (ho : Onc S.2) {x : N5.A} (hm : x ∈ l) (hw : 0 ≤ x.w) (hs : src x = v) (hp : ∀ y, pe y → y = x ∨ pf y) : SrM l s (rdS d S x).1 (fun u => u ∈ (rdS d S x).2) v d pf ∧ Onc (rdS d S x).2 ∧ ∀ n, dst x < n → niF n (rdS d S x).1 + (rdS d S x).2.length = niF n S.1 + S.2.length := by
 unfold rdS
 by_cases hc : S.1 (dst x) ≤ sat d x.w
 ·rw [if_pos hc]
  exact ⟨h.skip hs hp hc, ho, fun _ _ => rfl⟩
 ·rw [if_neg hc]
  dsimp only
  have h1 := h.inv.hi (dst x)
  have hsat := N5.sat_lt (show sat d x.w < Inf by omega)
  have ht := h.take hm hw hs hp (by omega)
  rcases h.open_or (u := dst x) (k := sat d x.w) (by omega) (by omega) with ⟨e1, e2⟩ | ⟨e1, e2⟩
  ·rw [if_pos e1]
   refine ⟨?_, onc_snoc ho e2, fun n hn => ?_⟩
   ·have e : (fun u => u ∈ S.2 ++ [dst x]) = (fun u => u ∈ S.2 ∨ u = dst x) := funext fun u => propext (by simp)
    rw [e]
    exact ht
   ·have := niF_upd n S.1 (dst x) (sat d x.w) (by omega)
    rw [if_pos ⟨hn, e1⟩] at this
    rw [List.length_append, List.length_singleton]
    omega
  ·rw [if_neg (by omega)]
   refine ⟨?_, ho, fun n hn => ?_⟩
   ·have e : (fun u => u ∈ S.2) = (fun u => u ∈ S.2 ∨ u = dst x) := funext fun u => propext ⟨Or.inl, fun h => h.elim id (fun e => e ▸ e2)⟩
    rw [e]
    exact ht
   ·have := niF_upd n S.1 (dst x) (sat d x.w) (by omega)
    rw [if_neg (fun q => absurd q.2 (by omega))] at this
    omega
theorem SrM.rounds {l : List N5.A} {s : Nat} {S : (Nat → Int) × List Nat} {v : Nat} {d : Int} (h : SrM l s S.1 (fun u => u ∈ S.2) v d (fun x => src x = v)) (ho : Onc S.2) (r : List N5.A) (hr : ∀ x ∈ r, x ∈ l ∧ 0 ≤ x.w ∧ src x = v) (n : Nat) (hn : ∀ x ∈ l, dst x < n) (k : Nat) (hk : k ≤ r.length) : SrM l s (rdL d (r.take k) S).1 (fun u => u ∈ (rdL d (r.take k) S).2) v d (fun x => src x = v ∧ x ∉ r.take k) ∧ Onc (rdL d (r.take k) S).2 ∧ niF n (rdL d (r.take k) S).1 + (rdL d (r.take k) S).2.length = niF n S.1 + S.2.length := by
 induction k with
 | zero =>
   have e : (fun x : N5.A => src x = v ∧ x ∉ r.take 0) = (fun x => src x = v) := funext fun x => propext (by simp)
   rw [e]
   exact ⟨h, ho, rfl⟩
 | succ k ih =>
   obtain ⟨i1, i2, i3⟩ := ih (by omega)
   have et : r.take (k + 1) = r.take k ++ [r[k]] := by rw [List.take_add_one, List.getElem?_eq_getElem (by omega)]; rfl
   obtain ⟨g1, g2, g3⟩ := hr r[k] (List.getElem_mem _)
   have hs := i1.step i2 (pf := fun x => src x = v ∧ x ∉ r.take (k + 1)) g1 g2 g3 (fun y hy => by
    by_cases e : y = r[k]
    ·exact Or.inl e
    ·refine Or.inr ⟨hy.1, fun hq => ?_⟩
     rw [et, List.mem_append, List.mem_singleton] at hq
     exact hq.elim hy.2 e)
   have er : rdL d (r.take (k + 1)) S = rdS d (rdL d (r.take k) S) r[k] := by rw [et, rdL_snoc]
   rw [er]
   exact ⟨hs.1, hs.2.1, (hs.2.2 n (hn _ g1)).trans i3⟩
theorem SrM.round {l : List N5.A} {s : Nat} {S : (Nat → Int) × List Nat} {v : Nat} {d : Int} (h : SrM l s S.1 (fun u => u ∈ S.2) v d (fun x => src x = v)) (ho : Onc S.2) (r : List N5.A) (hr : ∀ x ∈ r, x ∈ l ∧ 0 ≤ x.w ∧ src x = v) (ha : ∀ x ∈ l, src x = v → x ∈ r) (n : Nat) (hn : ∀ x ∈ l, dst x < n) : Srh l s (rdL d r S).1 (fun u => u ∈ (rdL d r S).2) (fun _ => False) ∧ Onc (rdL d r S).2 ∧ niF n (rdL d r S).1 + (rdL d r S).2.length = niF n S.1 + S.2.length := by
 have h1 := h.rounds ho r hr n hn r.length (Nat.le_refl _)
 rw [List.take_length] at h1
 exact ⟨h1.1.done (fun x hx hp => hp.2 (ha x hx hp.1)), h1.2⟩
end Go.Proofs.YtaafkpojjdjphaaGreat
namespace Go.Proofs.YtaafkpojjdjphaaGreat
open Go.RowKit
def rof (r : List A) (v : Nat) : List A := r.filter (fun x => decide (x.f.toNat = v))
theorem rof_len (r : List A) (v : Nat) : (rof r v).length ≤ r.length := List.length_filter_le _ _
theorem rof_mem {r : List A} {v : Nat} {x : A} : x ∈ rof r v ↔ x ∈ r ∧ x.f.toNat = v := by simp [rof]
def cellsR : List A → List Value
 | [] => []
 | x :: r => .int .i64 x.t :: .int .u64 x.w :: cellsR r
theorem cellsR_len : ∀ r : List A, (cellsR r).length = r.length * 2
 | [] => rfl
 | x :: r => by simp [cellsR, cellsR_len r]; omega
theorem cellsR_append : ∀ r s : List A, cellsR (r ++ s) = cellsR r ++ cellsR s
 | [], s => rfl
 | x :: r, s => by simp [cellsR, cellsR_append r s]
theorem cellsR_at : ∀ (r : List A) (j : Nat), j < r.length → (cellsR r)[j * 2]? = some (.int .i64 (r.getD j A.zero).t) ∧ (cellsR r)[j * 2 + 1]? = some (.int .u64 (r.getD j A.zero).w)
 | [], _, h => absurd h (by simp)
 | x :: r, 0, _ => ⟨rfl, rfl⟩
 | x :: r, j + 1, h => by
   have := cellsR_at r j (by simpa using h)
   rw [show (j + 1) * 2 = j * 2 + 2 by omega]
   exact this
structure Rds (w : World) (B g n : Nat) (rv : Nat → Value) (r : List A) : Prop where
 tb : TbV w g n 254 rv
 gb : B ≤ g
 ro : ∀ v, v < n → w.ownsRow B 256 2 (rv v) (rof r v).length (cellsR (rof r v))
 ap : ∀ u v, u < n → v < n → u ≠ v → ∀ k, (rv u).ownBlock = some k → (rv v).ownBlock ≠ some k
theorem own_keep {w w' : World} {B : Nat} {e : TypeId} {size : Nat} {v : Value} {n : Nat} {xs : List Value} (h : w.ownsRow B e size v n xs) (hk : ∀ k, v.ownBlock = some k → w'.heap[k]? = w.heap[k]?) : w'.ownsRow B e size v n xs := by
 refine ⟨h.1, ?_⟩
 rcases h.2 with h' | ⟨g, c, cur, h1, h2, h3, h4⟩
 ·exact Or.inl h'
 ·exact Or.inr ⟨g, c, cur, h1, h2, (hk g (by rw [h1]; rfl)).trans h3, h4⟩
theorem own_lt {w : World} {B : Nat} {e : TypeId} {size : Nat} {v : Value} {n : Nat} {xs : List Value} (h : w.ownsRow B e size v n xs) {k : Nat} (hk : v.ownBlock = some k) : B ≤ k ∧ k < w.heap.size := by
 rcases h.2 with ⟨e1, _⟩ | ⟨g, c, cur, h1, h2, h3, h4⟩
 ·rw [e1] at hk; cases hk
 ·rw [h1] at hk
  have e : g = k := by simpa [Value.ownBlock] using hk
  subst e
  exact ⟨h2, lt_of_block h3⟩
theorem Rds.on {w w' : World} {B g n : Nat} {rv : Nat → Value} {r : List A} (h : Rds w B g n rv r) (hb : Below w.heap.size w w') : Rds w' B g n rv r :=
 ⟨h.tb.same (hb.block g h.tb.lt), h.gb, fun v hv => own_on (h.ro v hv) hb, h.ap⟩
def RB (g n : Nat) (rv : Nat → Value) (b : Nat) : Prop := b = g ∨ ∃ v, v < n ∧ (rv v).ownBlock = some b
structure RdT (g n : Nat) (w : World) (rv : Nat → Value) (w' : World) (rv' : Nat → Value) : Prop where
 fr : Fr (RB g n rv) w w'
 nb : ∀ b, RB g n rv' b → RB g n rv b ∨ w.heap.size ≤ b
theorem RdT.refl (g n : Nat) (w : World) (rv : Nat → Value) : RdT g n w rv w rv := ⟨Fr.refl _ _, fun _ h => Or.inl h⟩
theorem RdT.trans {g n : Nat} {a b c : World} {ra rb rc : Nat → Value} (h : RdT g n a ra b rb) (k : RdT g n b rb c rc) : RdT g n a ra c rc :=
 ⟨⟨k.fr.os.trans h.fr.os, k.fr.tape.trans h.fr.tape, k.fr.output.trans h.fr.output, Nat.le_trans h.fr.size k.fr.size, fun x hx hn => (k.fr.block x (Nat.lt_of_lt_of_le hx h.fr.size) (fun e => (h.nb x e).elim hn (fun e2 => by omega))).trans (h.fr.block x hx hn)⟩, fun x hx => by
  rcases k.nb x hx with h1 | h1
  ·exact h.nb x h1
  ·exact Or.inr (Nat.le_trans h.fr.size h1)⟩
theorem RdT.on {g n : Nat} {a b : World} {ra : Nat → Value} (h : Below a.heap.size a b) : RdT g n a ra b ra := ⟨⟨h.os, h.tape, h.output, h.size, fun x hx _ => h.block x hx⟩, fun _ h => Or.inl h⟩
theorem Rds.rb {w : World} {B g n : Nat} {rv : Nat → Value} {r : List A} (h : Rds w B g n rv r) {b : Nat} (hb : RB g n rv b) : B ≤ b ∧ b < w.heap.size := by
 rcases hb with e | ⟨v, hv, e⟩
 ·subst e
  exact ⟨h.gb, h.tb.lt⟩
 ·exact own_lt (h.ro v hv) e
theorem Rds.below {w w' : World} {B g n : Nat} {rv rv' : Nat → Value} {r : List A} (h : Rds w B g n rv r) (ht : RdT g n w rv w' rv') (hB : B ≤ w.heap.size) : Below B w w' := ht.fr.below hB (fun _ hb => (h.rb hb).1)
def rdA (r : List A) (x : A) : List A := if x.w < N5.Inf then r ++ [x] else r
theorem rdA_len (r : List A) (x : A) : (rdA r x).length ≤ r.length + 1 := by unfold rdA; split <;> simp
theorem infoR : (Tryz.prog.info? 256).map (fun i => (i.zero, i.size, i.bytes)) = some (some (.agg #[.int .i64 0, .int .u64 0]), 2, 16) := by kernel_rfl
theorem rof_tN (r : List A) (f : Nat) (t d : Int) : rof (r ++ [⟨f, t, d⟩]) f = rof r f ++ [⟨f, t, d⟩] := by simp [rof, List.filter_append]
theorem rof_fN {r : List A} {f v : Nat} {t d : Int} (h : f ≠ v) : rof (r ++ [⟨f, t, d⟩]) v = rof r v := by simp [rof, List.filter_append, h]
theorem Rds.put {w w1 w7 : World} {B g n : Nat} {rv : Nat → Value} {r : List A} (h : Rds w B g n rv r) {f : Nat} {t d : Int} (hf : f < n) (hb1 : Below w.heap.size w w1) (hg : w1.grownBy w7 (rv f).ownBlock) {gg cap : Nat} (ho : w7.ownsRow B 256 2 (.slice (some ⟨gg, 0, none⟩) ((rof r f).length + 1 : Nat) cap) ((rof r f).length + 1) (cellsR (rof r f) ++ [.int .i64 t, .int .u64 d])) (hat : (rv f).ownBlock = some gg ∨ w.heap.size ≤ gg) :
  Rds (w7.setCell ⟨g, f, none⟩ (.slice (some ⟨gg, 0, none⟩) ((rof r f).length + 1 : Nat) cap)) B g n (updV rv f (.slice (some ⟨gg, 0, none⟩) ((rof r f).length + 1 : Nat) cap)) (r ++ [⟨f, t, d⟩]) ∧ RdT g n w rv (w7.setCell ⟨g, f, none⟩ (.slice (some ⟨gg, 0, none⟩) ((rof r f).length + 1 : Nat) cap)) (updV rv f (.slice (some ⟨gg, 0, none⟩) ((rof r f).length + 1 : Nat) cap)) := by
 have hgl := h.tb.lt
 have hkg : ∀ v, v < n → (rv v).ownBlock ≠ some g := fun v hv e => by
  obtain ⟨cs, fz, h1⟩ := Lib.ownsRow_kind (h.ro v hv) g e
  have h2 := h.tb
  unfold TbV at h2
  rw [h2] at h1
  injection h1 with h1
  injection h1 with _ h1 _
  exact absurd h1 (by decide)
 have hggg : gg ≠ g := fun e => by
  rcases hat with h1 | h1
  ·exact hkg _ hf (by rw [h1, e])
  ·omega
 have h7 : ∀ k, k < w.heap.size → (rv f).ownBlock ≠ some k → w7.heap[k]? = w.heap[k]? := fun k hk hne => (hg.block k (Nat.lt_of_lt_of_le hk hb1.size) (fun e => hne e.symm)).trans (hb1.block k hk)
 have hs : ∀ (y : Value) (k : Nat), k ≠ g → (w7.setCell ⟨g, f, none⟩ y).heap[k]? = w7.heap[k]? := fun y k hk => Below.heap_setCell _ _ _ _ hk
 refine ⟨⟨?_, h.gb, fun v hv => ?_, fun u v hu hv huv k hk => ?_⟩, ?_⟩
 ·exact (TbV.same h.tb (h7 g hgl (hkg _ hf))).set _ _
 ·by_cases e : v = f
  ·subst e
   rw [updV_self, rof_tN, cellsR_append, List.length_append]
   refine own_keep ho (fun k hk => hs _ k (fun e => hggg ?_))
   have : gg = k := by simpa [Value.ownBlock] using hk
   omega
  ·rw [updV_ne _ _ e, rof_fN (fun e2 => e e2.symm)]
   refine own_keep (h.ro v hv) (fun k hk => (hs _ k (fun e2 => hkg v hv (by rw [hk, e2]))).trans (h7 k (own_lt (h.ro v hv) hk).2 (fun e2 => ?_)))
   exact h.ap _ _ hf hv (fun e3 => e e3.symm) k e2 hk
 ·by_cases e1 : u = f
  ·subst e1
   rw [updV_self] at hk
   have e2 : gg = k := by simpa [Value.ownBlock] using hk
   rw [updV_ne _ _ (fun e => huv e.symm)]
   intro h3
   rcases hat with h4 | h4
   ·exact h.ap _ _ hf hv huv k (by rw [h4, e2]) h3
   ·have := (own_lt (h.ro v hv) h3).2
    omega
  ·rw [updV_ne _ _ e1] at hk
   by_cases e2 : v = f
   ·subst e2
    rw [updV_self]
    intro h3
    have e3 : gg = k := by simpa [Value.ownBlock] using h3
    rcases hat with h4 | h4
    ·exact h.ap _ _ hu hf huv k hk (by rw [h4, e3])
    ·have := (own_lt (h.ro u hu) hk).2
     omega
   ·rw [updV_ne _ _ e2]
    exact h.ap _ _ hu hv huv k hk
 ·have hfr : Fr (RB g n rv) w w7 := ⟨hg.os.trans hb1.os, hg.tape.trans hb1.tape, hg.output.trans hb1.output, Nat.le_trans hb1.size hg.size, fun k hk hn => h7 k hk (fun e => hn (Or.inr ⟨_, hf, e⟩))⟩
  refine ⟨hfr.setCell ⟨g, f, none⟩ _ (Or.inl rfl), fun b hb => ?_⟩
  rcases hb with e | ⟨v, hv, e⟩
  ·exact Or.inl (Or.inl e)
  ·by_cases e1 : v = f
   ·subst e1
    rw [updV_self] at e
    have e2 : gg = b := by simpa [Value.ownBlock] using e
    rcases hat with h4 | h4
    ·exact Or.inl (Or.inr ⟨_, hf, by rw [h4, e2]⟩)
    ·exact Or.inr (by omega)
   ·rw [updV_ne _ _ e1] at e
    exact Or.inl (Or.inr ⟨v, hv, e⟩)
set_option maxRecDepth 100000 in
set_option maxHeartbeats 1600000 in
theorem radd_any (B g n : Nat) (rv : Nat → Value) (r : List A) (f : Nat) (t d : Int) (w : World) (hR : Rds w B g n rv r) (hf : f < n) (hd : 0 ≤ d ∧ d ≤ N5.Inf) (hrl : r.length ≤ 1099511627776) (hB : B ≤ w.heap.size) :
  Calls Tryz.prog 190 #[.slice (some ⟨g, 0, none⟩) n n, .int .i64 f, .int .i64 t, .int .u64 d] w fun e w' => e = .returned (.tuple #[]) ∧ ∃ rv', Rds w' B g n rv' (rdA r ⟨f, t, d⟩) ∧ RdT g n w rv w' rv' := by
 obtain ⟨hd0, hd1⟩ := hd
 unfold N5.Inf at hd1
 by_cases hd2 : d < 18446744073709551615
 ·have HRA : Hid (rdA r ⟨f, t, d⟩ = r ++ [⟨f, t, d⟩]) := if_pos hd2
  obtain ⟨i, hi, hz, hs, hby⟩ := info_parts infoR
  have hf' : (f : Int) < n := by omega
  have d0 := hR.tb.cell hf
  have hgl := hR.tb.lt
  have hfz := hR.tb.free f
  have HR := hid hR
  have hln := Nat.le_trans (rof_len r f) hrl
  have HKG : Hid ((rv f).ownBlock ≠ some g) := fun e => by
   obtain ⟨cs, fz, h1⟩ := Lib.ownsRow_kind (hR.ro f hf) g e
   have h2 := hR.tb
   unfold TbV at h2
   rw [h2] at h1
   injection h1 with h1
   injection h1 with _ h1 _
   exact absurd h1 (by decide)
  obtain ⟨rvv, HRV⟩ := named (rv f)
  rw [HRV.out] at d0 HKG
  have hb1 : Below w.heap.size w (w.alloc (.cells #[.int .i64 t, .int .u64 d] 256)) := (Below.refl _ _).alloc (Nat.le_refl _) _
  have HB1 := hid hb1
  have HO1 := hid (own_on (hR.ro f hf) hb1)
  have hg1 := heap_top w (.cells #[.int .i64 t, .int .u64 d] 256)
  have HNW : Hid (∀ (j : Nat) (z : Value), [Value.int .i64 t, Value.int .u64 d][j]? = some z → (w.alloc (.cells #[.int .i64 t, .int .u64 d] 256)).cell? ((⟨w.heap.size, 0, none⟩ : Addr).add j) = some z) := World.news_of_block (cs := #[.int .i64 t, .int .u64 d]) (t := 256) (fr := (0, 0)) hg1
  have HSZ : Hid ((w.alloc (.cells #[.int .i64 t, .int .u64 d] 256)).heap.size = w.heap.size + 1) := World.size_alloc _ _
  have HBZ : Hid (B ≤ (w.alloc (.cells #[.int .i64 t, .int .u64 d] 256)).heap.size) := by show _ ≤ _; rw [World.size_alloc]; omega
  have HD0 : Hid ((w.alloc (.cells #[.int .i64 t, .int .u64 d] 256)).cell? ⟨g, f, none⟩ = some rvv) := (hb1.cell (p := ⟨g, f, none⟩) hgl).trans d0
  have HTA : Hid (TbV (w.alloc (.cells #[.int .i64 t, .int .u64 d] 256)) g n 254 rv) := hR.tb.same (hb1.block g hgl)
  rw [HRV.out] at HO1
  obtain ⟨ln, HLN⟩ := named (rof r f).length
  rw [HLN.out] at HO1 hln
  obtain ⟨CS, HCS⟩ := named (cellsR (rof r f))
  rw [HCS.out] at HO1
  have HGL : Hid (g < (w.alloc (.cells #[.int .i64 t, .int .u64 d] 256)).heap.size) := Nat.lt_of_lt_of_le hgl hb1.size
  clear hR hb1 hg1
  generalize hp : w.heap.size = p at *
  go_enter Tryz.func190, Tryz.ntmps190
  go_wp2_with (at_builtin; go_must (refine wpList_append_lies _ rfl (.tmp 15) (.tmp 19) 254 rfl B 256 i _ 2 16 Tryz.underlying254 hi hz hs hby rfl (by decide) rvv ln CS rfl HO1.out ⟨p, 0, none⟩ 1 1 [.int .i64 t, .int .u64 d] rfl rfl HNW.out (by intro u hu; simp at hu; rcases hu with rfl | rfl <;> rfl) (by decide) (by unfold maxLen; omega) (by omega) HBZ.out (p + 1) HSZ.out ?_; intro gg cap w7 hown7 hgrow7 hat7 hlt7; have f0 := (hgrow7.cell_far ⟨g, f, none⟩ HGL.out (fun e => HKG.out e.symm)).trans HD0.out; have f1 := TbV.free (TbV.same HTA.out (hgrow7.block g HGL.out (fun e => HKG.out e.symm))) f; have HG7 := hid hgrow7; have HW7 := hid hown7; have HT7 := hid hat7; clear hown7 hgrow7 hat7 hlt7))
  rw [← HRV.out] at HG7 HT7
  rw [← HLN.out, ← HCS.out] at HW7
  have hfin := HR.out.put hf (hp ▸ HB1.out) HG7.out HW7.out (HT7.out.imp id (fun h => by omega))
  rw [HRA.out]
  rw [HLN.out] at hfin
  go_end0
  exact ⟨rfl, _, hfin.1, hfin.2⟩
 ·obtain rfl : d = 18446744073709551615 := by omega
  have HRA : Hid (rdA r ⟨f, t, 18446744073709551615⟩ = r) := if_neg hd2
  have HR := hid hR
  clear hR
  go_enter Tryz.func190, Tryz.ntmps190
  go_wp2_with fail
  rw [HRA.out]
  go_end0
  exact ⟨rfl, rv, HR.out, RdT.refl _ _ _ _⟩
end Go.Proofs.YtaafkpojjdjphaaGreat
