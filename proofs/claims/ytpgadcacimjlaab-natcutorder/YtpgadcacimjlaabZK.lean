/-
  A map from pairs to truths of the call's own; lists of centres by their members. Labels: what they tell.
-/
import Derived.Test.YtpgadcacimjlaabZJ
import Derived.Test.YtpgadcacimjlaabZI
import Derived.Maps.OwnOps
namespace Go.Proofs.Ytpgadcacimjlaab.T3
open Go.RowKit
/-- A leader leads himself, and follows none that is greater. -/
structure RT (R : Nat → Nat) : Prop where
  rle : ∀ v, R v ≤ v
  rr : ∀ v, R (R v) = R v
theorem RT.mg {R : Nat → Nat} (h : RT R) (a b : Nat) : RT (mg R a b) := by
  have ra := h.rr a
  have rb := h.rr b
  have hm : R (min (R a) (R b)) = min (R a) (R b) := by
    rcases Nat.le_total (R a) (R b) with e | e
    · rw [Nat.min_eq_left e]; exact ra
    · rw [Nat.min_eq_right e]; exact rb
  have hle : min (R a) (R b) ≤ max (R a) (R b) := by omega
  unfold Go.Proofs.Ytpgadcacimjlaab.T3.mg
  generalize min (R a) (R b) = m at *
  generalize max (R a) (R b) = M at *
  refine ⟨fun v => ?_, fun v => ?_⟩
  · have := h.rle v
    unfold mgW
    split <;> omega
  · by_cases e : R v = M
    · rw [show mgW R M m v = m from if_pos e]
      unfold mgW
      rw [hm]; split <;> rfl
    · rw [show mgW R M m v = R v from if_neg e]
      unfold mgW
      rw [h.rr v, if_neg e]
theorem foldl_RT : ∀ (l : List A) (R : Nat → Nat), RT R → RT (l.foldl (fun R x => mg R x.f.toNat x.t.toNat) R)
  | [], _, h => h
  | _ :: r, _, h => foldl_RT r _ (h.mg _ _)
theorem lead_RT (l : List A) : RT (lead l) := foldl_RT l id ⟨fun _ => Nat.le_refl _, fun _ => rfl⟩
theorem foldl_eq : ∀ (l : List A) (R : Nat → Nat) (u v : Nat), R u = R v → l.foldl (fun R x => mg R x.f.toNat x.t.toNat) R u = l.foldl (fun R x => mg R x.f.toNat x.t.toNat) R v
  | [], _, _, _, h => h
  | x :: r, R, u, v, h => foldl_eq r _ u v (by simp only [mg, mgW, h])
theorem mg_joins (R : Nat → Nat) (a b : Nat) : mg R a b a = mg R a b b := by
  unfold mg mgW
  rcases Nat.lt_trichotomy (R a) (R b) with e | e | e
  · rw [if_neg (by omega), if_pos (by omega)]; omega
  · rw [e]
  · rw [if_pos (by omega), if_neg (by omega)]; omega
theorem foldl_arc : ∀ (l : List A) (R : Nat → Nat) (x : A), x ∈ l → l.foldl (fun R x => mg R x.f.toNat x.t.toNat) R x.f.toNat = l.foldl (fun R x => mg R x.f.toNat x.t.toNat) R x.t.toNat
  | y :: r, R, x, h => by
    rcases List.mem_cons.1 h with rfl | h
    · exact foldl_eq r _ _ _ (mg_joins R _ _)
    · exact foldl_arc r _ x h
theorem lead_arc {l : List A} {x : A} (h : x ∈ l) : lead l x.f.toNat = lead l x.t.toNat := foldl_arc l id x h
theorem foldl_const {S : Nat → Nat} : ∀ (l : List A) (R : Nat → Nat), (∀ x ∈ l, S x.f.toNat = S x.t.toNat) → (∀ v, S (R v) = S v) → ∀ v, S (l.foldl (fun R x => mg R x.f.toNat x.t.toNat) R v) = S v
  | [], _, _, h => h
  | x :: r, R, hl, h => foldl_const r _ (fun y hy => hl y (List.mem_cons_of_mem _ hy)) (fun v => by
      have e := hl x List.mem_cons_self
      have ea := h x.f.toNat
      have eb := h x.t.toNat
      show S (if R v = max (R x.f.toNat) (R x.t.toNat) then min (R x.f.toNat) (R x.t.toNat) else R v) = S v
      split
      · rename_i hv
        rw [← h v, hv]
        rcases Nat.le_total (R x.f.toNat) (R x.t.toNat) with k | k
        · rw [Nat.min_eq_left k, Nat.max_eq_right k, ea, eb, e]
        · rw [Nat.min_eq_right k, Nat.max_eq_left k, ea, eb, e]
      · exact h v)
/-- What no arc leads out of is the same at the leader. -/
theorem lead_const {S : Nat → Nat} {l : List A} (hl : ∀ x ∈ l, S x.f.toNat = S x.t.toNat) (v : Nat) : S (lead l v) = S v := foldl_const l id hl (fun _ => rfl) v
theorem cnt_mono (R : Nat → Nat) {m n : Nat} (h : m ≤ n) : cnt R m ≤ cnt R n := by
  induction n with
  | zero => have : m = 0 := by omega
            subst this; exact Nat.le_refl _
  | succ n ih =>
    by_cases e : m = n + 1
    · subst e; exact Nat.le_refl _
    · have := ih (by omega)
      show _ ≤ (if R n = n then cnt R n + 1 else cnt R n)
      split <;> omega
theorem cnt_root {R : Nat → Nat} {r n : Nat} (hr : R r = r) (h : r < n) : cnt R r < cnt R n := by
  have h1 : cnt R (r + 1) = cnt R r + 1 := by rw [cnt, if_pos hr]
  have := cnt_mono R (show r + 1 ≤ n by omega)
  omega
theorem cnt_inj {R : Nat → Nat} {r s : Nat} (hr : R r = r) (hs : R s = s) (h : cnt R r = cnt R s) : r = s := by
  rcases Nat.lt_trichotomy r s with e | e | e
  · have := cnt_root hr e; omega
  · exact e
  · have := cnt_root hs e; omega
theorem cnt_find {R : Nat → Nat} : ∀ {n p : Nat}, p < cnt R n → ∃ v, v < n ∧ R v = v ∧ cnt R v = p
  | 0, _, h => absurd h (by simp [cnt])
  | n + 1, p, h => by
    by_cases hn : R n = n
    · rw [cnt, if_pos hn] at h
      by_cases e : p = cnt R n
      · exact ⟨n, by omega, hn, e.symm⟩
      · obtain ⟨v, h1, h2⟩ := cnt_find (R := R) (n := n) (p := p) (by omega)
        exact ⟨v, by omega, h2⟩
    · rw [cnt, if_neg hn] at h
      obtain ⟨v, h1, h2⟩ := cnt_find h
      exact ⟨v, by omega, h2⟩
/-- Labels are tidy. -/
theorem lab_step {R : Nat → Nat} (h : RT R) (k : Nat) : (lab R k = cnt R k ∧ cnt R (k + 1) = cnt R k + 1) ∨ (lab R k < cnt R k ∧ cnt R (k + 1) = cnt R k) := by
  by_cases e : R k = k
  · exact Or.inl ⟨by unfold lab; rw [e], by rw [cnt, if_pos e]⟩
  · have := h.rle k
    exact Or.inr ⟨by unfold lab; exact cnt_root (h.rr k) (by omega), by rw [cnt, if_neg e]⟩
theorem lab_lead {R : Nat → Nat} (h : RT R) {u v : Nat} (e : lab R u = lab R v) : R u = R v := cnt_inj (h.rr u) (h.rr v) e
theorem lab_arc {l : List A} {x : A} (h : x ∈ l) : lab (lead l) x.f.toNat = lab (lead l) x.t.toNat := by unfold lab; rw [lead_arc h]
theorem lead_le {l m : List A} (h : ∀ x ∈ l, lead m x.f.toNat = lead m x.t.toNat) (v : Nat) : lead m v ≤ lead l v := by
  rw [← lead_const h v]
  exact (lead_RT m).rle _
theorem lead_one {l m : List A} (h1 : ∀ x ∈ l, lead m x.f.toNat = lead m x.t.toNat) (h2 : ∀ x ∈ m, lead l x.f.toNat = lead l x.t.toNat) : lead l = lead m := by
  funext v
  exact Nat.le_antisymm (lead_le h2 v) (lead_le h1 v)
end Go.Proofs.Ytpgadcacimjlaab.T3
namespace Go.Proofs.Ytpgadcacimjlaab
open Go.RowKit
theorem tdy_labs {R : Nat → Nat} (h : T3.RT R) (n : Nat) : ∀ j k, k + j = n → tdy ((T3.ints (T3.labs R n)).drop k) (T3.cnt R k) = true
  | 0, k, e => by
    rw [List.drop_eq_nil_of_le (by rw [T3.ints_len, T3.labs_len]; omega)]
    rfl
  | j + 1, k, e => by
    have hk : k < (T3.ints (T3.labs R n)).length := by rw [T3.ints_len, T3.labs_len]; omega
    have ih := tdy_labs h n j (k + 1) (by omega)
    rw [drop_getI hk, T3.ints_getD, T3.labs_getD R n k (by omega)]
    simp only [tdy]
    rcases T3.lab_step h k with ⟨h1, h2⟩ | ⟨h1, h2⟩
    · rw [h1, if_neg (by omega), if_pos rfl]
      rw [h2] at ih
      exact ih
    · rw [if_neg (by omega), if_neg (by omega)]
      rw [h2] at ih
      exact ih
theorem tdy_parts {n : Nat} {l : List T3.A} (h : T3.chkE n l = 0) : tdy (T3.partsL n l) 0 = true ∧ (T3.partsL n l).length = n ∧ ∀ v, v < n → (T3.partsL n l).getD v 0 = (T3.lab (T3.lead l) v : Nat) := by
  unfold T3.partsL
  rw [if_pos h, Int.toNat_natCast]
  refine ⟨?_, by rw [T3.ints_len, T3.labs_len], fun v hv => by rw [T3.ints_getD, T3.labs_getD _ n v hv]⟩
  have := tdy_labs (T3.lead_RT l) n n 0 (by omega)
  exact this
/-- An arc in the words of the graph's texts. -/
def toT (x : A) : T3.A := ⟨x.f, x.t, x.w⟩
theorem toT_at {x : A} {w : World} {b o : Nat} (h : x.at w b o) : (toT x).at w b o := h
theorem mapT_getD (l : List A) (j : Nat) (hj : j < l.length) : (l.map toT).getD j T3.A.zero = toT (l.getD j A.zero) := by simp [List.getD, hj]
theorem arcs_T {w : World} {a : Option Addr} {l : List A} (h : Arcs w a l) : T3.Arcs w a (l.map toT) := by
  rcases h with rfl | ⟨b, o, rfl, hl, hc⟩
  · exact .inl rfl
  · refine .inr ⟨b, o, rfl, hl, fun j hj => ?_⟩
    have hj' : j < l.length := by simpa using hj
    rw [mapT_getD l j hj']
    exact toT_at (hc j hj')
theorem okA_T (N : Int) : (T3.okA N ∘ toT) = okA N := by funext x; rfl
theorem chkE_T (N : Int) (l : List A) : T3.chkE N (l.map toT) = chkE N l := by
  unfold T3.chkE chkE
  rw [List.length_map, List.all_map, okA_T]
theorem lead_prl {n : Nat} {l : List A} (h : chkE n l = 0) : T3.lead (l.map toT) = T3.lead (arQ (prl l)) := by
  have hoa := (chk_zero h).2.2.2
  have hpo : ∀ x, x ∈ l → 0 ≤ x.f ∧ 0 ≤ x.t := fun x hx => ⟨(hoa x hx).1.1, (hoa x hx).2.1⟩
  refine T3.lead_one (fun y hy => ?_) (fun y hy => ?_)
  · obtain ⟨x, hx, rfl⟩ := List.mem_map.1 hy
    show T3.lead (arQ (prl l)) x.f.toNat = T3.lead (arQ (prl l)) x.t.toNat
    have hp := hpo x hx
    by_cases e : x.f = x.t
    · rw [e]
    · have key : ∀ c d : Nat, c < d → nr l c d = true → T3.lead (arQ (prl l)) c = T3.lead (arQ (prl l)) d := fun c d hcd hn => by
        have hm : (⟨c, d⟩ : Pr) ∈ prl l := (prl_mem hpo).2 ⟨hcd, hn⟩
        have := T3.lead_arc (l := arQ (prl l)) (x := ⟨(c : Int), (d : Int), 0⟩) (List.mem_map.2 ⟨_, hm, rfl⟩)
        simpa using this
      rcases Nat.lt_or_gt_of_ne (show x.f.toNat ≠ x.t.toNat by omega) with hlt | hlt
      · refine key _ _ hlt ?_
        unfold nr
        rw [List.any_eq_true]
        refine ⟨x, hx, ?_⟩
        simp only [Bool.or_eq_true, Bool.and_eq_true, beq_iff_eq]
        omega
      · refine (key _ _ hlt ?_).symm
        unfold nr
        rw [List.any_eq_true]
        refine ⟨x, hx, ?_⟩
        simp only [Bool.or_eq_true, Bool.and_eq_true, beq_iff_eq]
        omega
  · obtain ⟨p, hp, rfl⟩ := List.mem_map.1 hy
    obtain ⟨_, hn⟩ := (prl_mem hpo).1 hp
    unfold nr at hn
    obtain ⟨x, hx, hx2⟩ := List.any_eq_true.1 hn
    have h1 := T3.lead_arc (l := l.map toT) (List.mem_map.2 ⟨x, hx, rfl⟩)
    simp only [Bool.or_eq_true, Bool.and_eq_true, beq_iff_eq] at hx2
    have h2 : T3.lead (l.map toT) x.f.toNat = T3.lead (l.map toT) x.t.toNat := h1
    show T3.lead (l.map toT) ((p.a : Int)).toNat = T3.lead (l.map toT) ((p.b : Int)).toNat
    rcases hx2 with ⟨e1, e2⟩ | ⟨e1, e2⟩
    · rw [← e1, ← e2]; exact h2
    · rw [← e1, ← e2]; exact h2.symm
theorem others_nil (l : List A) : others l [] = prl l := by
  unfold others
  exact List.filter_eq_self.2 (fun p _ => by simp)
/-- Without marks fragments are the graph's parts. -/
theorem parts_none {n : Nat} {l : List A} (h : chkE n l = 0) : T3.partsL n (l.map toT) = T3.partsL n (arQ (others l [])) := by
  unfold T3.partsL
  rw [if_pos ((chkE_T n l).trans h), if_pos (others_ok h []), others_nil, lead_prl h]
/-- An unmarked pair lies in one fragment. -/
theorem unmarked_same {n : Nat} {l : List A} {ms : List Pi2} (h : chkE n l = 0) {p : Pr} (hp : p ∈ prl l) (hm : p ∉ ms.map Pi2.nat) : (T3.partsL n (arQ (others l ms))).getD p.a 0 = (T3.partsL n (arQ (others l ms))).getD p.b 0 := by
  have hlt := prl_lt (chk_zero h).2.2.2 hp
  obtain ⟨_, _, h3⟩ := tdy_parts (others_ok h ms)
  rw [h3 _ hlt.1, h3 _ hlt.2]
  have hm' : p ∈ others l ms := List.mem_filter.2 ⟨hp, by simpa using hm⟩
  have := T3.lab_arc (l := arQ (others l ms)) (x := ⟨(p.a : Int), (p.b : Int), 0⟩) (List.mem_map.2 ⟨_, hm', rfl⟩)
  have e : T3.lab (T3.lead (arQ (others l ms))) p.a = T3.lab (T3.lead (arQ (others l ms))) p.b := by simpa using this
  rw [e]
/-- Pairs as they are given. -/
def toI (p : Pr) : Pi2 := ⟨(p.a : Int), (p.b : Int)⟩
theorem toI_nat (xs : List Pr) : (xs.map toI).map Pi2.nat = xs := by
  rw [List.map_map]
  conv => rhs; rw [← List.map_id xs]
  congr 1
theorem prs_I {w : World} {a : Option Addr} {xs : List Pr} (h : Prs w a xs) : PrI w a (xs.map toI) := by
  rcases h with rfl | ⟨b, o, e, hl, hc⟩
  · exact .inl rfl
  · refine .inr ⟨b, o, e, hl, fun j hj => ?_⟩
    have hj' : j < xs.length := by simpa using hj
    have e : (xs.map toI).getD j Pi2.zero = toI (xs.getD j Pr.zero) := by simp [List.getD, hj']
    rw [e]
    exact hc j hj'
theorem mk1_good {N : Int} : ∀ {ms : List Pi2}, (∀ p, p ∈ ms → (0 ≤ p.a ∧ p.a < N) ∧ (0 ≤ p.b ∧ p.b < N) ∧ p.a < p.b) → mk1 N ms = 0
  | [], _ => rfl
  | x :: r, h => by
    obtain ⟨h1, h2, h3⟩ := h x List.mem_cons_self
    simp only [mk1]
    rw [if_neg (by simp [okV, h1, h2]), if_neg (by omega)]
    exact mk1_good (fun p hp => h p (List.mem_cons_of_mem _ hp))
theorem frE_good {n : Nat} {l : List A} {xs : List Pr} (h : chkE n l = 0) (hs : ∀ p, p ∈ xs → p ∈ prl l) (hl : xs.length ≤ 16384) : frE n l (xs.map toI) = 0 := by
  have hoa := (chk_zero h).2.2.2
  unfold frE mkE
  rw [if_neg (by rw [h]; omega), if_neg (by rw [List.length_map]; omega)]
  refine mk1_good (fun q hq => ?_)
  obtain ⟨p, hp, rfl⟩ := List.mem_map.1 hq
  have h1 := prl_lt hoa (hs p hp)
  have h2 := ((prl_mem (fun x hx => ⟨(hoa x hx).1.1, (hoa x hx).2.1⟩)).1 (hs p hp)).1
  exact ⟨⟨by simp [toI], by simp [toI]; omega⟩, ⟨by simp [toI], by simp [toI]; omega⟩, by simp [toI]; omega⟩
end Go.Proofs.Ytpgadcacimjlaab
namespace Go.Proofs.Ytpgadcacimjlaab
open Go.RowKit Go.Maps
theorem plainElem_bool_inv {H : Type} {P : Program} {e : TypeId} (he : P.underlying e = some .bool) {v : Value} {z : DataW H × List MemPlace} (h : plainElem P e v = some z) : ∃ x, v = .bool x ∧ z = (.lit (.bool x), []) := by
  unfold plainElem at h
  rw [he] at h
  cases v <;> simp at h
  exact ⟨_, rfl, h.symm⟩
theorem lookup_bool {H : Type} {P : Program} {w : World} {k t e : TypeId} {b n : Nat} {D : DataW H} (h : w.ownsMap P k (plainElem P e) b n D) (K : Keyed P k) (ht : P.underlying t = some (.map k e)) (he : P.underlying e = some .bool) (hz : (zeroValue e).run P w = .ok (.bool false) w)
    {key : Value} {kl : Lit} (hkey : keyOf P k key = some kl) : ∃ c, (Instr.lookup t (.map (some b)) key false).run P w = .ok (.bool c) w ∧ D.atKey kl (.lit (.bool false)) = .lit (.bool c) := by
  obtain ⟨v, ps, hrun, hv⟩ := h.lookup K ht hz (plainElem_bool he false) hkey
  obtain ⟨c, rfl, hc⟩ := plainElem_bool_inv he hv
  simp only [Prod.mk.injEq] at hc
  exact ⟨c, hrun, hc.1⟩
theorem wpList_lookup_own_bool {H : Type} {P : Program} (w : World) {ops : Array Oper} {rest : List Oper} {o : Oper} {a : Act} {Q : Exit → Act → World → Prop}
    (hg : o.guard = none) (m x : Operand) (t : TypeId) (hop : o.op = Op.lookup t m x false)
    (k e : TypeId) (K : Keyed P k) (ht : P.underlying t = some (.map k e)) (he : P.underlying e = some .bool) (hz : (zeroValue e).run P w = .ok (.bool false) w) (b n : Nat) (D : DataW H)
    (hm : a.eval m = .map (some b)) (hown : w.ownsMap P k (plainElem P e) b n D) (key : Value) (kl : Lit) (hx : a.eval x = key) (hkey : keyOf P k key = some kl)
    (hK : ∀ c : Bool, D.atKey kl (.lit (.bool false)) = .lit (.bool c) → wpList P ops Q rest (a.put o.dst (.bool c)) w) :
    wpList P ops Q (o :: rest) a w := by
  refine wpList_plain hg fun K' hK' => ?_
  obtain ⟨c, hrun, hat⟩ := lookup_bool hown K ht he hz hkey
  unfold Oper.wp
  simp [execOp, hop, hm, hx, hrun, Result.andThen]
  exact hK' _ _ (hK c hat)
theorem zeroB (w : World) : (zeroValue 4).run Try.prog w = .ok (.bool false) w := by kernel_rfl
/-- Block b is a map that is true at the pairs of S alone. -/
def MapB (w : World) (b n : Nat) (S : List Pr) : Prop := ∃ D : DataW Unit, w.ownsMap Try.prog 36 (plainElem (H := Unit) Try.prog 4) b n D ∧ ∀ p, Sm p → D.atKey (kP p) (.lit (.bool false)) = .lit (.bool (decide (p ∈ S)))
theorem MapB.made (w : World) : MapB (w.alloc (.map #[] 0)) w.heap.size 0 [] := ⟨_, World.ownsMap_made _ _ _ _, fun p _ => by simp [DataW.atKey]⟩
theorem MapB.put {D : DataW Unit} {S : List Pr} {q : Pr} (hD : IsMap D) (h : ∀ p, Sm p → D.atKey (kP p) (.lit (.bool false)) = .lit (.bool (decide (p ∈ S)))) (hq : Sm q) : ∀ p, Sm p → (D.put (kP q) (.lit (.bool true))).atKey (kP p) (.lit (.bool false)) = .lit (.bool (decide (p ∈ S ++ [q]))) := fun p hp => by
  by_cases e : p = q
  · subst e
    rw [atKey_put_same hD hp.lit]
    simp
  · rw [atKey_put_other (hp.ne hq e), h p hp]
    simp [e]
theorem MapB.congr {w : World} {b n : Nat} {S T : List Pr} (h : MapB w b n S) (e : ∀ p, p ∈ S ↔ p ∈ T) : MapB w b n T := by
  obtain ⟨D, h1, h2⟩ := h
  refine ⟨D, h1, fun p hp => (h2 p hp).trans ?_⟩
  rw [decide_eq_decide.2 (e p)]
theorem MapB.kept {w w' : World} {b n : Nat} {S : List Pr} {row : Option Nat} (h : MapB w b n S) (hg : w.grownBy w' row) (hne : some b ≠ row) : MapB w' b n S := by
  obtain ⟨D, h1, h2⟩ := h
  exact ⟨D, h1.kept hg hne, h2⟩
theorem MapB.lt {w : World} {b n : Nat} {S : List Pr} (h : MapB w b n S) : b < w.heap.size := by
  obtain ⟨D, h1, _⟩ := h
  exact h1.lt
theorem MapB.on {w w' : World} {b n : Nat} {S : List Pr} (h : MapB w b n S) (hb : Below w.heap.size w w') : MapB w' b n S := h.kept (gby_below (row := none) hb) (by simp)
/-- Two lists that hold nothing twice and the same are of one length. -/
theorem nodup_len : ∀ {a b : List Pr}, a.Nodup → b.Nodup → (∀ x, x ∈ a → x ∈ b) → a.length ≤ b.length
  | [], _, _, _, _ => Nat.zero_le _
  | x :: r, b, ha, hb, h => by
    have hx : x ∈ b := h x List.mem_cons_self
    have ha' := List.nodup_cons.1 ha
    have h1 := nodup_len (a := r) (b := b.erase x) ha'.2 (hb.erase x) (fun y hy => by
      have hne : y ≠ x := fun e => ha'.1 (e ▸ hy)
      exact (List.mem_erase_of_ne hne).2 (h y (List.mem_cons_of_mem _ hy)))
    rw [List.length_erase_of_mem hx] at h1
    have := List.length_pos_of_mem hx
    rw [List.length_cons]
    omega
/-- The centres from behind, each twice. -/
def bkk (cs : List Int) (k : Nat) : List Int := ((cs.drop k).reverse).flatMap (fun c => [c, c])
theorem bkk_end (cs : List Int) : bkk cs cs.length = [] := by simp [bkk]
theorem bkk_step {cs : List Int} {k : Nat} (h : k < cs.length) : bkk cs k = bkk cs (k + 1) ++ [cs.getD k 0, cs.getD k 0] := by
  unfold bkk
  rw [drop_getI h, List.reverse_cons, List.flatMap_append]
  simp
theorem dbl_len : ∀ q : List Int, (q.flatMap (fun c => [c, c])).length = 2 * q.length
  | [] => rfl
  | x :: r => by
    rw [List.flatMap_cons, List.length_append, dbl_len r]
    show 2 + 2 * r.length = 2 * (r.length + 1)
    omega
theorem bkk_len (cs : List Int) (k : Nat) : (bkk cs k).length ≤ 2 * cs.length := by
  unfold bkk
  rw [dbl_len, List.length_reverse, List.length_drop]
  omega
theorem bkk_mem {cs : List Int} {c : Int} : c ∈ bkk cs 0 ↔ c ∈ cs := by
  unfold bkk
  simp [List.mem_flatMap]
theorem maE_mem {N m : Int} {l : List A} {cs ds : List Int} (h : ∀ c, c ∈ cs ↔ c ∈ ds) (hc : cs.length ≤ 16384) (hd : ds.length ≤ 16384) : maE N m l cs = maE N m l ds := by
  unfold maE ceE
  rw [if_neg (show ¬ 16384 < cs.length by omega), if_neg (show ¬ 16384 < ds.length by omega)]
  have e : cs.all (okV N) = ds.all (okV N) := by
    rw [Bool.eq_iff_iff, List.all_eq_true, List.all_eq_true]
    exact ⟨fun g c hc => g c ((h c).2 hc), fun g c hc => g c ((h c).1 hc)⟩
  rw [e]
theorem MarksIs.same {n : Nat} {l : List A} {cs ds : List Nat} {m : Nat} {x y : List Pr} (hC : chkE n l = 0) (hc : ∀ c, c ∈ cs → c < n) (hd : ∀ c, c ∈ cs ↔ c ∈ ds) (hm : 1 ≤ m) (h1 : MarksIs n l cs m x) (h2 : MarksIs n l ds m y) : x = y := by
  obtain ⟨_, hn, hl, _⟩ := chk_zero hC
  obtain ⟨f, hf, rfl⟩ := h1
  obtain ⟨g, hg, rfl⟩ := h2
  have e : ∀ c, c ∈ cs → f c = g c := fun c hm' => CutIs.one (by omega) hl (hc c hm') hm (hf c hm') (hg c ((hd c).1 hm'))
  congr 1
  funext p
  rw [Bool.eq_iff_iff, decide_eq_true_eq, decide_eq_true_eq]
  exact ⟨fun ⟨c, h1, h2⟩ => ⟨c, (hd c).1 h1, e c h1 ▸ h2⟩, fun ⟨c, h1, h2⟩ => ⟨c, (hd c).2 h1, (e c ((hd c).2 h1)).symm ▸ h2⟩⟩
set_option maxRecDepth 100000 in
set_option maxHeartbeats 1600000 in
theorem samePairs_any (a a' : Option Addr) (cap cap' : Nat) (ms : List Pi2) (w : World) (hml : ms.length ≤ 9223372036854775807) (hr : PrI w a ms) (hr' : PrI w a' ms) :
    Calls Try.prog 7 #[.slice a ms.length cap, .slice a' ms.length cap'] w fun e w' => e = .returned (.bool true) ∧ Below w.heap.size w w' := by
  obtain ⟨ix, ox, hix⟩ := hr.get
  have HIX := Lib.hid hix
  obtain ⟨iy, oy, hiy⟩ := hr'.get
  have HIY := Lib.hid hiy
  clear hix hr hiy hr'
  go_enter Try.func7, Try.ntmps7
  go_wp2_with fail
  go_loopw [5] (fun i wr => ∃ (k : Nat), k ≤ ms.length ∧ i = .int .i64 k ∧ Hid (Below w.heap.size w wr)) (fun i _ => ms.length - (intOf i).toNat)
  case atStart => exact ⟨0, Nat.zero_le _, rfl, Below.refl _ _⟩
  case round =>
    obtain ⟨k, hk, rfl, HBR⟩ := hrel
    by_cases hlk : k < ms.length
    · obtain ⟨rfl, hbl, hat⟩ := HIX.out (by omega)
      obtain ⟨rfl, hbl', hat'⟩ := HIY.out (by omega)
      have hlk' : (k : Int) < ms.length := by omega
      obtain ⟨x0, x1⟩ := hat k hlk
      obtain ⟨z0, z1⟩ := hat' k hlk
      have y0 := (HBR.out.cell (p := ⟨ix, ox + k * 2, none⟩) hbl).trans x0
      have y1 := (HBR.out.cell (p := ⟨ix, ox + k * 2 + 1, none⟩) hbl).trans x1
      have u0 := (HBR.out.cell (p := ⟨iy, oy + k * 2, none⟩) hbl').trans z0
      have u1 := (HBR.out.cell (p := ⟨iy, oy + k * 2 + 1, none⟩) hbl').trans z1
      clear hat x0 x1 hat' z0 z1
      generalize ms.getD k Pi2.zero = q at *
      obtain ⟨xa, xb⟩ := q
      have HBN : ∀ nq, Hid (Below w.heap.size w (wr.drewN nq)) := fun _ => ⟨HBR.out.os, HBR.out.tape, HBR.out.output, HBR.out.size, HBR.out.block⟩
      go_wp2_with fail
      go_quiet (fail)
      go_wp2_with fail
      exact ⟨⟨k + 1, by omega, by simp, HBN _⟩, by simp [intOf]; omega⟩
    · have hlk' : ¬ (k : Int) < ms.length := by omega
      go_wp2_with fail
      go_ret
      exact ⟨rfl, HBR.out⟩
theorem samePr_any (a a' : Option Addr) (cap cap' : Nat) (xs : List Pr) (w : World) (hml : xs.length ≤ 9223372036854775807) (hr : Prs w a xs) (hr' : Prs w a' xs) :
    Calls Try.prog 7 #[.slice a xs.length cap, .slice a' xs.length cap'] w fun e w' => e = .returned (.bool true) ∧ Below w.heap.size w w' := by
  have h := samePairs_any a a' cap cap' (xs.map toI) w (by rw [List.length_map]; exact hml) (prs_I hr) (prs_I hr')
  rw [List.length_map] at h
  exact h
end Go.Proofs.Ytpgadcacimjlaab
