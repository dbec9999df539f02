/-
  Contract of the reference's Connected. Labels: what they tell. Lists of booleans. Contract of the reference's Tidy.
-/
import Derived.Test.YtpgadcacimjlaaaGreatZJ
import Derived.Test.YtpgadcacimjlaaaGreatZI
import Derived.Test.YtpgadcacimjlaaaGreatZT
import Derived.BigRegion
namespace Go.Proofs.YtpgadcacimjlaaaGreat.T3
open Go.RowKit
/-- A leader leads himself, and follows none that is greater. -/
structure RT (R : Nat → Nat) : Prop where
  rle : ∀ v, R v ≤ v
  rr : ∀ v, R (R v) = R v
theorem RT.mg {R : Nat → Nat} (h : RT R) (a b : Nat) : RT (mg R a b) := by
  have ra := h.rr a
  have rb := h.rr b
  have hm : R (min (R a) (R b)) = min (R a) (R b) := by
    rcases Nat.le_total (R a) (R b) with e | e
    · rw [Nat.min_eq_left e]; exact ra
    · rw [Nat.min_eq_right e]; exact rb
  have hle : min (R a) (R b) ≤ max (R a) (R b) := by omega
  unfold Go.Proofs.YtpgadcacimjlaaaGreat.T3.mg
  generalize min (R a) (R b) = m at *
  generalize max (R a) (R b) = M at *
  refine ⟨fun v => ?_, fun v => ?_⟩
  · have := h.rle v
    unfold mgW
    split <;> omega
  · by_cases e : R v = M
    · rw [show mgW R M m v = m from if_pos e]
      unfold mgW
      rw [hm]; split <;> rfl
    · rw [show mgW R M m v = R v from if_neg e]
      unfold mgW
      rw [h.rr v, if_neg e]
theorem foldl_RT : ∀ (l : List A) (R : Nat → Nat), RT R → RT (l.foldl (fun R x => mg R x.f.toNat x.t.toNat) R)
  | [], _, h => h
  | _ :: r, _, h => foldl_RT r _ (h.mg _ _)
theorem lead_RT (l : List A) : RT (lead l) := foldl_RT l id ⟨fun _ => Nat.le_refl _, fun _ => rfl⟩
theorem foldl_eq : ∀ (l : List A) (R : Nat → Nat) (u v : Nat), R u = R v → l.foldl (fun R x => mg R x.f.toNat x.t.toNat) R u = l.foldl (fun R x => mg R x.f.toNat x.t.toNat) R v
  | [], _, _, _, h => h
  | x :: r, R, u, v, h => foldl_eq r _ u v (by simp only [mg, mgW, h])
theorem mg_joins (R : Nat → Nat) (a b : Nat) : mg R a b a = mg R a b b := by
  unfold mg mgW
  rcases Nat.lt_trichotomy (R a) (R b) with e | e | e
  · rw [if_neg (by omega), if_pos (by omega)]; omega
  · rw [e]
  · rw [if_pos (by omega), if_neg (by omega)]; omega
theorem foldl_arc : ∀ (l : List A) (R : Nat → Nat) (x : A), x ∈ l → l.foldl (fun R x => mg R x.f.toNat x.t.toNat) R x.f.toNat = l.foldl (fun R x => mg R x.f.toNat x.t.toNat) R x.t.toNat
  | y :: r, R, x, h => by
    rcases List.mem_cons.1 h with rfl | h
    · exact foldl_eq r _ _ _ (mg_joins R _ _)
    · exact foldl_arc r _ x h
theorem lead_arc {l : List A} {x : A} (h : x ∈ l) : lead l x.f.toNat = lead l x.t.toNat := foldl_arc l id x h
theorem foldl_const {S : Nat → Nat} : ∀ (l : List A) (R : Nat → Nat), (∀ x ∈ l, S x.f.toNat = S x.t.toNat) → (∀ v, S (R v) = S v) → ∀ v, S (l.foldl (fun R x => mg R x.f.toNat x.t.toNat) R v) = S v
  | [], _, _, h => h
  | x :: r, R, hl, h => foldl_const r _ (fun y hy => hl y (List.mem_cons_of_mem _ hy)) (fun v => by
      have e := hl x List.mem_cons_self
      have ea := h x.f.toNat
      have eb := h x.t.toNat
      show S (if R v = max (R x.f.toNat) (R x.t.toNat) then min (R x.f.toNat) (R x.t.toNat) else R v) = S v
      split
      · rename_i hv
        rw [← h v, hv]
        rcases Nat.le_total (R x.f.toNat) (R x.t.toNat) with k | k
        · rw [Nat.min_eq_left k, Nat.max_eq_right k, ea, eb, e]
        · rw [Nat.min_eq_right k, Nat.max_eq_left k, ea, eb, e]
      · exact h v)
/-- What no arc leads out of is the same at the leader. -/
theorem lead_const {S : Nat → Nat} {l : List A} (hl : ∀ x ∈ l, S x.f.toNat = S x.t.toNat) (v : Nat) : S (lead l v) = S v := foldl_const l id hl (fun _ => rfl) v
theorem cnt_mono (R : Nat → Nat) {m n : Nat} (h : m ≤ n) : cnt R m ≤ cnt R n := by
  induction n with
  | zero => have : m = 0 := by omega
            subst this; exact Nat.le_refl _
  | succ n ih =>
    by_cases e : m = n + 1
    · subst e; exact Nat.le_refl _
    · have := ih (by omega)
      show _ ≤ (if R n = n then cnt R n + 1 else cnt R n)
      split <;> omega
theorem cnt_root {R : Nat → Nat} {r n : Nat} (hr : R r = r) (h : r < n) : cnt R r < cnt R n := by
  have h1 : cnt R (r + 1) = cnt R r + 1 := by rw [cnt, if_pos hr]
  have := cnt_mono R (show r + 1 ≤ n by omega)
  omega
theorem cnt_inj {R : Nat → Nat} {r s : Nat} (hr : R r = r) (hs : R s = s) (h : cnt R r = cnt R s) : r = s := by
  rcases Nat.lt_trichotomy r s with e | e | e
  · have := cnt_root hr e; omega
  · exact e
  · have := cnt_root hs e; omega
theorem cnt_find {R : Nat → Nat} : ∀ {n p : Nat}, p < cnt R n → ∃ v, v < n ∧ R v = v ∧ cnt R v = p
  | 0, _, h => absurd h (by simp [cnt])
  | n + 1, p, h => by
    by_cases hn : R n = n
    · rw [cnt, if_pos hn] at h
      by_cases e : p = cnt R n
      · exact ⟨n, by omega, hn, e.symm⟩
      · obtain ⟨v, h1, h2⟩ := cnt_find (R := R) (n := n) (p := p) (by omega)
        exact ⟨v, by omega, h2⟩
    · rw [cnt, if_neg hn] at h
      obtain ⟨v, h1, h2⟩ := cnt_find h
      exact ⟨v, by omega, h2⟩
/-- Labels are tidy. -/
theorem lab_step {R : Nat → Nat} (h : RT R) (k : Nat) : (lab R k = cnt R k ∧ cnt R (k + 1) = cnt R k + 1) ∨ (lab R k < cnt R k ∧ cnt R (k + 1) = cnt R k) := by
  by_cases e : R k = k
  · exact Or.inl ⟨by unfold lab; rw [e], by rw [cnt, if_pos e]⟩
  · have := h.rle k
    exact Or.inr ⟨by unfold lab; exact cnt_root (h.rr k) (by omega), by rw [cnt, if_neg e]⟩
theorem lab_lead {R : Nat → Nat} (h : RT R) {u v : Nat} (e : lab R u = lab R v) : R u = R v := cnt_inj (h.rr u) (h.rr v) e
theorem lab_arc {l : List A} {x : A} (h : x ∈ l) : lab (lead l) x.f.toNat = lab (lead l) x.t.toNat := by unfold lab; rw [lead_arc h]
theorem lead_le {l m : List A} (h : ∀ x ∈ l, lead m x.f.toNat = lead m x.t.toNat) (v : Nat) : lead m v ≤ lead l v := by
  rw [← lead_const h v]
  exact (lead_RT m).rle _
theorem lead_one {l m : List A} (h1 : ∀ x ∈ l, lead m x.f.toNat = lead m x.t.toNat) (h2 : ∀ x ∈ m, lead l x.f.toNat = lead l x.t.toNat) : lead l = lead m := by
  funext v
  exact Nat.le_antisymm (lead_le h2 v) (lead_le h1 v)
end Go.Proofs.YtpgadcacimjlaaaGreat.T3
namespace Go.Proofs.YtpgadcacimjlaaaGreat
open Go.RowKit
theorem tdy_labs {R : Nat → Nat} (h : T3.RT R) (n : Nat) : ∀ j k, k + j = n → tdy ((T3.ints (T3.labs R n)).drop k) (T3.cnt R k) = true
  | 0, k, e => by
    rw [List.drop_eq_nil_of_le (by rw [T3.ints_len, T3.labs_len]; omega)]
    rfl
  | j + 1, k, e => by
    have hk : k < (T3.ints (T3.labs R n)).length := by rw [T3.ints_len, T3.labs_len]; omega
    have ih := tdy_labs h n j (k + 1) (by omega)
    rw [drop_getI hk, T3.ints_getD, T3.labs_getD R n k (by omega)]
    simp only [tdy]
    rcases T3.lab_step h k with ⟨h1, h2⟩ | ⟨h1, h2⟩
    · rw [h1, if_neg (by omega), if_pos rfl]
      rw [h2] at ih
      exact ih
    · rw [if_neg (by omega), if_neg (by omega)]
      rw [h2] at ih
      exact ih
theorem tdy_parts {n : Nat} {l : List T3.A} (h : T3.chkE n l = 0) : tdy (T3.partsL n l) 0 = true ∧ (T3.partsL n l).length = n ∧ ∀ v, v < n → (T3.partsL n l).getD v 0 = (T3.lab (T3.lead l) v : Nat) := by
  unfold T3.partsL
  rw [if_pos h, Int.toNat_natCast]
  refine ⟨?_, by rw [T3.ints_len, T3.labs_len], fun v hv => by rw [T3.ints_getD, T3.labs_getD _ n v hv]⟩
  have := tdy_labs (T3.lead_RT l) n n 0 (by omega)
  exact this
/-- An arc in the words of the graph's texts. -/
def toT (x : A) : T3.A := ⟨x.f, x.t, x.w⟩
theorem toT_at {x : A} {w : World} {b o : Nat} (h : x.at w b o) : (toT x).at w b o := h
theorem mapT_getD (l : List A) (j : Nat) (hj : j < l.length) : (l.map toT).getD j T3.A.zero = toT (l.getD j A.zero) := by simp [List.getD, hj]
theorem arcs_T {w : World} {a : Option Addr} {l : List A} (h : Arcs w a l) : T3.Arcs w a (l.map toT) := by
  rcases h with rfl | ⟨b, o, rfl, hl, hc⟩
  · exact .inl rfl
  · refine .inr ⟨b, o, rfl, hl, fun j hj => ?_⟩
    have hj' : j < l.length := by simpa using hj
    rw [mapT_getD l j hj']
    exact toT_at (hc j hj')
theorem okA_T (N : Int) : (T3.okA N ∘ toT) = okA N := by funext x; rfl
theorem chkE_T (N : Int) (l : List A) : T3.chkE N (l.map toT) = chkE N l := by
  unfold T3.chkE chkE
  rw [List.length_map, List.all_map, okA_T]
theorem lead_prl {n : Nat} {l : List A} (h : chkE n l = 0) : T3.lead (l.map toT) = T3.lead (arQ (prl l)) := by
  have hoa := (chk_zero h).2.2.2
  have hpo : ∀ x, x ∈ l → 0 ≤ x.f ∧ 0 ≤ x.t := fun x hx => ⟨(hoa x hx).1.1, (hoa x hx).2.1⟩
  refine T3.lead_one (fun y hy => ?_) (fun y hy => ?_)
  · obtain ⟨x, hx, rfl⟩ := List.mem_map.1 hy
    show T3.lead (arQ (prl l)) x.f.toNat = T3.lead (arQ (prl l)) x.t.toNat
    have hp := hpo x hx
    by_cases e : x.f = x.t
    · rw [e]
    · have key : ∀ c d : Nat, c < d → nr l c d = true → T3.lead (arQ (prl l)) c = T3.lead (arQ (prl l)) d := fun c d hcd hn => by
        have hm : (⟨c, d⟩ : Pr) ∈ prl l := (prl_mem hpo).2 ⟨hcd, hn⟩
        have := T3.lead_arc (l := arQ (prl l)) (x := ⟨(c : Int), (d : Int), 0⟩) (List.mem_map.2 ⟨_, hm, rfl⟩)
        simpa using this
      rcases Nat.lt_or_gt_of_ne (show x.f.toNat ≠ x.t.toNat by omega) with hlt | hlt
      · refine key _ _ hlt ?_
        unfold nr
        rw [List.any_eq_true]
        refine ⟨x, hx, ?_⟩
        simp only [Bool.or_eq_true, Bool.and_eq_true, beq_iff_eq]
        omega
      · refine (key _ _ hlt ?_).symm
        unfold nr
        rw [List.any_eq_true]
        refine ⟨x, hx, ?_⟩
        simp only [Bool.or_eq_true, Bool.and_eq_true, beq_iff_eq]
        omega
  · obtain ⟨p, hp, rfl⟩ := List.mem_map.1 hy
    obtain ⟨_, hn⟩ := (prl_mem hpo).1 hp
    unfold nr at hn
    obtain ⟨x, hx, hx2⟩ := List.any_eq_true.1 hn
    have h1 := T3.lead_arc (l := l.map toT) (List.mem_map.2 ⟨x, hx, rfl⟩)
    simp only [Bool.or_eq_true, Bool.and_eq_true, beq_iff_eq] at hx2
    have h2 : T3.lead (l.map toT) x.f.toNat = T3.lead (l.map toT) x.t.toNat := h1
    show T3.lead (l.map toT) ((p.a : Int)).toNat = T3.lead (l.map toT) ((p.b : Int)).toNat
    rcases hx2 with ⟨e1, e2⟩ | ⟨e1, e2⟩
    · rw [← e1, ← e2]; exact h2
    · rw [← e1, ← e2]; exact h2.symm
theorem others_nil (l : List A) : others l [] = prl l := by
  unfold others
  exact List.filter_eq_self.2 (fun p _ => by simp)
/-- Without marks fragments are the graph's parts. -/
theorem parts_none {n : Nat} {l : List A} (h : chkE n l = 0) : T3.partsL n (l.map toT) = T3.partsL n (arQ (others l [])) := by
  unfold T3.partsL
  rw [if_pos ((chkE_T n l).trans h), if_pos (others_ok h []), others_nil, lead_prl h]
/-- An unmarked pair lies in one fragment. -/
theorem unmarked_same {n : Nat} {l : List A} {ms : List Pi2} (h : chkE n l = 0) {p : Pr} (hp : p ∈ prl l) (hm : p ∉ ms.map Pi2.nat) : (T3.partsL n (arQ (others l ms))).getD p.a 0 = (T3.partsL n (arQ (others l ms))).getD p.b 0 := by
  have hlt := prl_lt (chk_zero h).2.2.2 hp
  obtain ⟨_, _, h3⟩ := tdy_parts (others_ok h ms)
  rw [h3 _ hlt.1, h3 _ hlt.2]
  have hm' : p ∈ others l ms := List.mem_filter.2 ⟨hp, by simpa using hm⟩
  have := T3.lab_arc (l := arQ (others l ms)) (x := ⟨(p.a : Int), (p.b : Int), 0⟩) (List.mem_map.2 ⟨_, hm', rfl⟩)
  have e : T3.lab (T3.lead (arQ (others l ms))) p.a = T3.lab (T3.lead (arQ (others l ms))) p.b := by simpa using this
  rw [e]
/-- Pairs as they are given. -/
def toI (p : Pr) : Pi2 := ⟨(p.a : Int), (p.b : Int)⟩
theorem toI_nat (xs : List Pr) : (xs.map toI).map Pi2.nat = xs := by
  rw [List.map_map]
  conv => rhs; rw [← List.map_id xs]
  congr 1
theorem prs_I {w : World} {a : Option Addr} {xs : List Pr} (h : Prs w a xs) : PrI w a (xs.map toI) := by
  rcases h with rfl | ⟨b, o, e, hl, hc⟩
  · exact .inl rfl
  · refine .inr ⟨b, o, e, hl, fun j hj => ?_⟩
    have hj' : j < xs.length := by simpa using hj
    have e : (xs.map toI).getD j Pi2.zero = toI (xs.getD j Pr.zero) := by simp [List.getD, hj']
    rw [e]
    exact hc j hj'
theorem mk1_good {N : Int} : ∀ {ms : List Pi2}, (∀ p, p ∈ ms → (0 ≤ p.a ∧ p.a < N) ∧ (0 ≤ p.b ∧ p.b < N) ∧ p.a < p.b) → mk1 N ms = 0
  | [], _ => rfl
  | x :: r, h => by
    obtain ⟨h1, h2, h3⟩ := h x List.mem_cons_self
    simp only [mk1]
    rw [if_neg (by simp [okV, h1, h2]), if_neg (by omega)]
    exact mk1_good (fun p hp => h p (List.mem_cons_of_mem _ hp))
theorem frE_good {n : Nat} {l : List A} {xs : List Pr} (h : chkE n l = 0) (hs : ∀ p, p ∈ xs → p ∈ prl l) (hl : xs.length ≤ 16384) : frE n l (xs.map toI) = 0 := by
  have hoa := (chk_zero h).2.2.2
  unfold frE mkE
  rw [if_neg (by rw [h]; omega), if_neg (by rw [List.length_map]; omega)]
  refine mk1_good (fun q hq => ?_)
  obtain ⟨p, hp, rfl⟩ := List.mem_map.1 hq
  have h1 := prl_lt hoa (hs p hp)
  have h2 := ((prl_mem (fun x hx => ⟨(hoa x hx).1.1, (hoa x hx).2.1⟩)).1 (hs p hp)).1
  exact ⟨⟨by simp [toI], by simp [toI]; omega⟩, ⟨by simp [toI], by simp [toI]; omega⟩, by simp [toI]; omega⟩
end Go.Proofs.YtpgadcacimjlaaaGreat
namespace Go.Proofs.YtpgadcacimjlaaaGreat.T3
open Go.RowKit
/-- Numbers of a slice lie so in memory. -/
def Ints (w : World) (a : Option Addr) (xs : List Int) : Prop :=
  xs = [] ∨ ∃ b o, a = some ⟨b, o, none⟩ ∧ b < w.heap.size ∧ ∀ j, j < xs.length → w.cell? ⟨b, o + j, none⟩ = some (.int .i64 (xs.getD j 0))
theorem Ints.on {w w' : World} {a : Option Addr} {xs : List Int} (h : Ints w a xs) (hb : Below w.heap.size w w') : Ints w' a xs := by
  rcases h with h | ⟨b, o, rfl, hl, hc⟩
  · exact Or.inl h
  · exact Or.inr ⟨b, o, rfl, Nat.lt_of_lt_of_le hl hb.size, fun j hj => (hb.cell (p := ⟨b, o + j, none⟩) hl).trans (hc j hj)⟩
theorem ints_own {w : World} {B : Nat} {a : Option Addr} {c : Nat} {xs : List Int} (h : w.ownsRow B 3 1 (.slice a xs.length c) xs.length (cellsI xs)) : Ints w a xs := by
  by_cases h0 : xs = []
  · exact Or.inl h0
  · rcases h.2 with ⟨_, h'⟩ | ⟨g, c', cur, h', hb, hg, hnc, hm, _⟩
    · exact absurd (List.eq_nil_of_length_eq_zero h') h0
    · injection h' with e1 e2 e3
      subst e1
      refine Or.inr ⟨g, 0, rfl, lt_of_block hg, fun j hj => ?_⟩
      rw [Nat.zero_add, World.ownsRow.cellAt h j (by omega), cellsI_getD xs j hj]
theorem Ints.get {w : World} {a : Option Addr} {xs : List Int} (h : Ints w a xs) : ∃ b o, 0 < xs.length → a = some ⟨b, o, none⟩ ∧ b < w.heap.size ∧ ∀ j, j < xs.length → w.cell? ⟨b, o + j, none⟩ = some (.int .i64 (xs.getD j 0)) := by
  rcases h with rfl | ⟨b, o, h⟩
  · exact ⟨0, 0, fun h => absurd h (by simp)⟩
  · exact ⟨b, o, fun _ => h⟩
theorem below_drewN (B : Nat) (w : World) (n : Nat) : Below B w (w.drewN n) := ⟨rfl, rfl, rfl, Nat.le_refl _, fun _ _ => rfl⟩
/-- Truths of a slice lie so in memory. -/
def Bools (P : Nat → Prop) (w : World) (a : Option Addr) (q : List Bool) : Prop :=
  q = [] ∨ ∃ b o, a = some ⟨b, o, none⟩ ∧ P b ∧ ∀ j, j < q.length → w.cell? ⟨b, o + j, none⟩ = some (.bool (q.getD j false))
theorem Bools.get {P : Nat → Prop} {w : World} {a : Option Addr} {q : List Bool} (h : Bools P w a q) : ∃ b o, 0 < q.length → a = some ⟨b, o, none⟩ ∧ P b ∧ ∀ j, j < q.length → w.cell? ⟨b, o + j, none⟩ = some (.bool (q.getD j false)) := by
  rcases h with rfl | ⟨b, o, h⟩
  · exact ⟨0, 0, fun h => absurd h (by simp)⟩
  · exact ⟨b, o, fun _ => h⟩
theorem Bools.imp {P Q : Nat → Prop} {w w' : World} {a : Option Addr} {q : List Bool} (h : Bools P w a q) (hp : ∀ b, P b → Q b) (hs : ∀ b, P b → w'.heap[b]? = w.heap[b]?) : Bools Q w' a q := by
  rcases h with h | ⟨b, o, rfl, hb, hc⟩
  · exact Or.inl h
  · exact Or.inr ⟨b, o, rfl, hp b hb, fun j hj => (World.cell?_of_block (w := w) (a := ⟨b, o + j, none⟩) (hs b hb)).trans (hc j hj)⟩
theorem Bools.on {B : Nat} {w w' : World} {a : Option Addr} {q : List Bool} (h : Bools (· < B) w a q) (hb : Below B w w') : Bools (· < B) w' a q := h.imp (fun _ h => h) (fun b h => hb.block b h)
theorem info4 : (Tryz.prog.info? 4).map (fun i => (i.zero, i.size, i.bytes)) = some (some (.bool false), 1, 1) := by kernel_rfl
/-- Truths as cells. -/
def cellsB (l : List Bool) : List Value := l.map Value.bool
theorem cellsB_len (l : List Bool) : (cellsB l).length = l.length := by unfold cellsB; simp
theorem cellsB_getD (xs : List Bool) (k : Nat) (h : k < xs.length) : (cellsB xs)[k]? = some (.bool (xs.getD k false)) := by
  unfold cellsB
  simp [List.getD, List.getElem?_eq_getElem h]
theorem cellsB_set (xs : List Bool) (k : Nat) (x : Bool) : (cellsB xs).set k (.bool x) = cellsB (xs.set k x) := by
  unfold cellsB
  rw [List.map_set]
theorem getDB_set (L : List Bool) (k j : Nat) (x : Bool) (hk : k < L.length) : (L.set k x).getD j false = if j = k then x else L.getD j false := by
  by_cases h : j = k
  · subst h; simp [List.getD, hk]
  · rw [if_neg h]; simp [List.getD, Ne.symm h]
/-- Truths in a row of our own. -/
def OwnB (w : World) (g n : Nat) (L : List Bool) : Prop := w.ownsRow g 4 1 (.slice (some ⟨g, 0, none⟩) n n) n (cellsB L)
theorem OwnB.cell {w : World} {g n : Nat} {L : List Bool} (h : OwnB w g n L) (hl : L.length = n) (k : Nat) (hk : k < n) : w.cell? ⟨g, k, none⟩ = some (.bool (L.getD k false)) := by
  rw [World.ownsRow.cellAt h k (by omega), cellsB_getD _ k (by omega)]
theorem OwnB.set {w : World} {g n : Nat} {L : List Bool} (h : OwnB w g n L) (k : Nat) (x : Bool) : OwnB (w.setCell ⟨g, k, none⟩ (.bool x)) g n (L.set k x) := by
  have := (World.ownsRow.stored h k (.bool x)).1
  rw [cellsB_set] at this
  exact this
theorem OwnB.free {w : World} {g n : Nat} {L : List Bool} (h : OwnB w g n L) (k : Nat) : w.frozen? ⟨g, k, none⟩ = false := World.ownsRow.frozenAt h k
theorem OwnB.lt {w : World} {g n : Nat} {L : List Bool} (h : OwnB w g n L) : g < w.heap.size := (World.ownsRow.lt h g rfl).2
theorem OwnB.bools {w : World} {g n : Nat} {L : List Bool} (h : OwnB w g n L) (hl : L.length = n) : Bools (· < w.heap.size) w (some ⟨g, 0, none⟩) L :=
  Or.inr ⟨g, 0, rfl, h.lt, fun j hj => by rw [Nat.zero_add]; exact h.cell hl j (by omega)⟩
theorem ownB_new {w : World} {base n : Nat} (h : w.ownsRow base 4 1 (.slice (some ⟨base, 0, none⟩) n n) n (madeCells (Value.bool false).cells (n * 1)).toList) : OwnB w base n (List.replicate n false) := by
  have e : (madeCells (Value.bool false).cells (n * 1)).toList = cellsB (List.replicate n false) := by
    show (madeCells #[Value.bool false] (n * 1)).toList = _
    rw [toList_madeCells_one, Nat.mul_one]
    unfold cellsB
    simp
  rw [e] at h
  exact h
theorem mem_getD {l : List A} {j : Nat} (h : j < l.length) : l.getD j A.zero ∈ l := by
  rw [show l.getD j A.zero = l[j] by simp [List.getD, List.getElem?_eq_getElem h]]; exact List.getElem_mem h
theorem labsI_getD (R : Nat → Nat) (n k : Nat) (h : k < n) : (ints (labs R n)).getD k 0 = ((lab R k : Nat) : Int) := by rw [ints_getD, labs_getD R n k h]
end Go.Proofs.YtpgadcacimjlaaaGreat.T3
namespace Go.Proofs.YtpgadcacimjlaaaGreat.T3
open Go.RowKit
/-- A row of numbers of our own, full. -/
def OwnZ (w : World) (g n : Nat) (L : List Int) : Prop := w.ownsRow g 3 1 (.slice (some ⟨g, 0, none⟩) n n) n (cellsI L)
theorem OwnZ.cell {w : World} {g n : Nat} {L : List Int} (h : OwnZ w g n L) (hl : L.length = n) (k : Nat) (hk : k < n) : w.cell? ⟨g, k, none⟩ = some (.int .i64 (L.getD k 0)) := by
  rw [World.ownsRow.cellAt h k (by omega), cellsI_getD L k (by omega)]
theorem OwnZ.set {w : World} {g n : Nat} {L : List Int} (h : OwnZ w g n L) (k : Nat) (x : Int) : OwnZ (w.setCell ⟨g, k, none⟩ (.int .i64 x)) g n (L.set k x) := by
  have := (World.ownsRow.stored h k (.int .i64 x)).1
  rw [cellsI_set] at this
  exact this
theorem OwnZ.free {w : World} {g n : Nat} {L : List Int} (h : OwnZ w g n L) (k : Nat) : w.frozen? ⟨g, k, none⟩ = false := World.ownsRow.frozenAt h k
theorem OwnZ.lt {w : World} {g n : Nat} {L : List Int} (h : OwnZ w g n L) : g < w.heap.size := (World.ownsRow.lt h g rfl).2
theorem getDI_set (L : List Int) (k j : Nat) (x : Int) (hk : k < L.length) : (L.set k x).getD j 0 = if j = k then x else L.getD j 0 := by
  by_cases h : j = k
  · subst h; simp [List.getD, hk]
  · rw [if_neg h]; simp [List.getD, Ne.symm h]
theorem ext_labs {R : Nat → Nat} {n : Nat} {X : List Int} (hx : X.length = n) (h : ∀ j, j < n → X.getD j 0 = ((lab R j : Nat) : Int)) : X = ints (labs R n) := by
  apply List.ext_getElem
  · rw [hx, ints_len, labs_len]
  · intro i h1 h2
    have e1 := h i (by omega)
    have e2 := labsI R n i (by omega)
    rw [← e2] at e1
    simpa [List.getD, List.getElem?_eq_getElem h1, List.getElem?_eq_getElem h2] using e1
where labsI (R : Nat → Nat) (n k : Nat) (h : k < n) : (ints (labs R n)).getD k 0 = ((lab R k : Nat) : Int) := by rw [ints_getD, labs_getD R n k h]
set_option maxHeartbeats 1600000 in
theorem rtidy_any (g n : Nat) (L : List Nat) (R : Nat → Nat) (w : World) (hn : n ≤ 1024) (hRT : RT R) (hLl : L.length = n) (hS : ∀ u v, u < n → v < n → (L.getD u 0 = L.getD v 0 ↔ R u = R v)) (ho : OwnL w g n L) :
    Calls Tryz.prog 54 #[.slice (some ⟨g, 0, none⟩) n n] w fun e w' => e = .returned (.slice (some ⟨w.heap.size, 0, none⟩) n n) ∧ OwnL w' w.heap.size n (labs R n) ∧ Below w.heap.size w w' := by
  obtain ⟨i0, hi, hz0, hz1, hz2⟩ := info_parts info3
  have hg := ho.lt
  have HS := Lib.hid hS
  have HRT := Lib.hid hRT
  have HLl := Lib.hid hLl
  clear hS hRT hLl
  go_enter Tryz.func54, Tryz.ntmps54
  go_wp2_with (at_make; refine wpList_make_full _ rfl (.tmp 8) (.tmp 8) 25 rfl w.heap.size 3 i0 (.int .i64 0) 1 Tryz.underlying25 hi hz0 hz1 .i64 .i64 n n n rfl rfl rfl rfl (by rw [hz2]; omega) (by unfold maxLen; omega) (Nat.le_refl _) ?_; intro w1 hown1 hgrow1)
  have hown0 : OwnZ w1 w.heap.size n (List.replicate n 0) := by
    have e : (madeCells (Value.int .i64 0).cells (n * 1)).toList = cellsI (List.replicate n 0) := by
      show (madeCells #[Value.int .i64 0] (n * 1)).toList = _
      rw [toList_madeCells_one, Nat.mul_one]
      unfold cellsI
      simp
    rw [e] at hown1
    exact hown1
  have hb1 : Below w.heap.size w w1 := (Below.refl _ _).grown hgrow1 (Nat.le_refl _) (by intro k hk; cases hk)
  clear hown1 hgrow1
  go_loopw [4, 5] (fun t i wr => ∃ (k : Nat) (X : List Int), k ≤ n ∧ i = .int .i64 (k : Int) ∧ t = .int .i64 ((cnt R k : Nat) : Int) ∧ Hid (X.length = n) ∧ Hid (∀ j, j < k → X.getD j 0 = ((lab R j : Nat) : Int)) ∧ OwnZ wr w.heap.size n X ∧ Below w.heap.size w wr) (fun _ i _ => n - (intOf i).toNat)
  case atStart => exact ⟨0, List.replicate n 0, Nat.zero_le _, rfl, rfl, by show _ = _; simp, by intro j hj; omega, hown0, hb1⟩
  case round =>
    obtain ⟨k, X, hk, rfl, rfl, HX, HJ, hown, hbel⟩ := hrel
    clear hown0 hb1
    have hck := cnt_le R k
    by_cases hlt : k < n
    · have cx := hown.cell HX.out k hlt
      have fx := hown.free k
      have hXl : k < X.length := by rw [HX.out]; exact hlt
      have hst := hown.set k (-1)
      have HJ1 : Hid (∀ j, j < k → (X.set k (-1)).getD j 0 = ((lab R j : Nat) : Int)) := by
        show ∀ j, _
        intro j hj
        rw [getDI_set _ _ _ _ hXl, if_neg (by omega)]
        exact HJ.out j hj
      have HK1 : Hid ((X.set k (-1)).getD k 0 = -1) := by show _ = _; rw [getDI_set _ _ _ _ hXl, if_pos rfl]
      have HX1 : Hid ((X.set k (-1)).length = n) := by show _ = _; rw [List.length_set]; exact HX.out
      have hb2 := hbel.setCell (p := ⟨w.heap.size, k, none⟩) (Nat.le_refl _) (.int .i64 (-1))
      generalize X.getD k 0 = x0 at *
      generalize X.set k (-1) = X1 at *
      obtain ⟨c, HC⟩ := named (cnt R k)
      rw [HC.out] at hck ⊢
      clear HJ HX hXl
      go_wp2_with fail
      go_loopw [6] (fun i wr => ∃ (u : Nat) (Y : List Int), u ≤ k ∧ i = .int .i64 (u : Int) ∧ Hid (Y.length = n) ∧ Hid (∀ j, j < k → Y.getD j 0 = ((lab R j : Nat) : Int)) ∧ Hid ((Y.getD k 0 = -1 ∧ ∀ j, j < u → L.getD j 0 ≠ L.getD k 0) ∨ (Y.getD k 0 = ((lab R k : Nat) : Int) ∧ R k ≠ k)) ∧ OwnZ wr w.heap.size n Y ∧ Below w.heap.size w wr) (fun i _ => k - (intOf i).toNat)
      case atStart => exact ⟨0, X1, Nat.zero_le _, rfl, HX1, HJ1, Or.inl ⟨HK1.out, by intro j hj; omega⟩, hst, hb2⟩
      case round =>
        obtain ⟨u, Y, hu, rfl, HY, HYJ, HALT, ho3, hb3⟩ := hrel
        clear cx fx hst hb2 HJ1 HK1 HX1 hown hbel
        have ck := ho3.cell HY.out k hlt
        have fk := ho3.free k
        have hYl : k < Y.length := by rw [HY.out]; exact hlt
        rcases HALT.out with ⟨e1, e2⟩ | ⟨e1, e2⟩
        · rw [e1] at ck
          by_cases huk : u < k
          · have lu := (hb3.cell (p := ⟨g, u, none⟩) hg).trans (ho.cell HLl.out u (by omega))
            have lk := (hb3.cell (p := ⟨g, k, none⟩) hg).trans (ho.cell HLl.out k hlt)
            have cu := ho3.cell HY.out u (by omega)
            rw [HYJ.out u huk] at cu
            by_cases hq : L.getD u 0 = L.getD k 0
            · rw [hq] at lu
              have hR := (HS.out u k (by omega) hlt).1 hq
              have HNE : Hid (R k ≠ k) := by
                show _ ≠ _
                intro h
                have := HRT.out.rle u
                omega
              have HLB : Hid (lab R k = lab R u) := by show _ = _; unfold lab; rw [hR]
              have hst := ho3.set k ((lab R u : Nat) : Int)
              have HJ2 : Hid (∀ j, j < k → (Y.set k ((lab R u : Nat) : Int)).getD j 0 = ((lab R j : Nat) : Int)) := by
                show ∀ j, _
                intro j hj
                rw [getDI_set _ _ _ _ hYl, if_neg (by omega)]
                exact HYJ.out j hj
              have HK2 : Hid ((Y.set k ((lab R u : Nat) : Int)).getD k 0 = ((lab R k : Nat) : Int)) := by show _ = _; rw [getDI_set _ _ _ _ hYl, if_pos rfl, HLB.out]
              have HX2 : Hid ((Y.set k ((lab R u : Nat) : Int)).length = n) := by show _ = _; rw [List.length_set]; exact HY.out
              clear e1 e2 hq hR
              generalize lab R u = z at *
              generalize L.getD k 0 = y at *
              go_wp2_with fail
              go_quiet (fail)
              go_wp2_with fail
              exact ⟨⟨u + 1, _, by omega, by go_num, HX2, HJ2, Or.inr ⟨HK2.out, HNE.out⟩, OwnZ.set (w := wr.drewN nq) (show OwnZ (wr.drewN nq) _ _ _ from ho3) k _, (hb3.trans (below_drewN _ _ _)).setCell (Nat.le_refl _) _⟩, by simp [intOf]; omega⟩
            · have hq' : (((L.getD u 0 : Nat) : Int) == ((L.getD k 0 : Nat) : Int)) = false := beq_eq_false_iff_ne.2 (by omega)
              have HE2 : Hid (∀ j, j < u + 1 → L.getD j 0 ≠ L.getD k 0) := by
                show ∀ j, _
                intro j hj
                by_cases e : j = u
                · rw [e]; exact hq
                · exact e2 j (by omega)
              clear e2 hq
              have E1 := Lib.hid e1
              clear e1
              generalize L.getD u 0 = y1 at *
              generalize L.getD k 0 = y2 at *
              generalize lab R u = z at *
              go_wp2_with fail
              go_quiet (fail)
              go_wp2_with fail
              exact ⟨⟨u + 1, Y, by omega, by go_num, HY, HYJ, Or.inl ⟨E1.out, HE2.out⟩, ho3, hb3.trans (below_drewN _ _ _)⟩, by simp [intOf]; omega⟩
          · have hRk : R k = k := by
              rcases Nat.lt_or_ge (R k) k with h | h
              · exact absurd ((HS.out (R k) k (by omega) hlt).2 (HRT.out.rr k)) (e2 (R k) (by omega))
              · have := HRT.out.rle k
                omega
            have HE2 : Hid (cnt R (k + 1) = c + 1) := by show _ = _; rw [cnt, if_pos hRk, HC.out]
            have HLB : Hid (lab R k = c) := by show _ = _; unfold lab; rw [hRk, HC.out]
            have hst := ho3.set k (c : Int)
            have HJ2 : Hid (∀ j, j < k + 1 → (Y.set k (c : Int)).getD j 0 = ((lab R j : Nat) : Int)) := by
              show ∀ j, _
              intro j hj
              rw [getDI_set _ _ _ _ hYl]
              split
              · rename_i e; rw [e, HLB.out]
              · exact HYJ.out j (by omega)
            have HX2 : Hid ((Y.set k (c : Int)).length = n) := by show _ = _; rw [List.length_set]; exact HY.out
            clear e1 e2 hRk
            go_wp2_with fail
            exact ⟨⟨k + 1, _, by omega, by go_num, by rw [HE2.out]; go_num, HX2, HJ2, hst, hb3.setCell (Nat.le_refl _) _⟩, by simp [intOf]; omega⟩
        · have HE2 : Hid (cnt R (k + 1) = c) := by show _ = _; rw [cnt, if_neg e2, HC.out]
          have HJ2 : Hid (∀ j, j < k + 1 → Y.getD j 0 = ((lab R j : Nat) : Int)) := by
            show ∀ j, _
            intro j hj
            by_cases e : j = k
            · rw [e, e1]
            · exact HYJ.out j (by omega)
          rw [e1] at ck
          have E1 := Lib.hid e1
          clear e1 e2
          generalize lab R k = z at *
          have hz0 : ¬ ((z : Nat) : Int) < 0 := by omega
          by_cases huk : u < k
          · go_wp2_with fail
            exact ⟨⟨k + 1, Y, by omega, by go_num, by rw [HE2.out], HY, HJ2, ho3, hb3⟩, by simp [intOf]; omega⟩
          · go_wp2_with fail
            exact ⟨⟨k + 1, Y, by omega, by go_num, by rw [HE2.out], HY, HJ2, ho3, hb3⟩, by simp [intOf]; omega⟩
    · have hX : X = ints (labs R n) := ext_labs HX.out (fun j hj => HJ.out j (by omega))
      rw [hX] at hown
      clear hX
      go_wp2_with fail
      go_ret
      exact ⟨rfl, hown, hbel⟩
end Go.Proofs.YtpgadcacimjlaaaGreat.T3
namespace Go.Proofs.YtpgadcacimjlaaaGreat.T3
open Go.RowKit
/-- The sum of the numbers in a block. -/
def sumAt (w : World) (g n : Nat) : Nat := ((List.range n).map (fun k => (intOf ((w.cell? ⟨g, k, none⟩).getD undef)).toNat)).sum
theorem sum_range (X : List Nat) : ((List.range X.length).map (fun k => X.getD k 0)).sum = X.sum := by
  have : (List.range X.length).map (fun k => X.getD k 0) = X := by
    apply List.ext_getElem
    · simp
    · intro i h1 h2
      simp [List.getD, List.getElem?_eq_getElem h2]
  rw [this]
theorem sumAt_own {w : World} {g n : Nat} {X : List Nat} (h : OwnL w g n X) (hl : X.length = n) : sumAt w g n = X.sum := by
  unfold sumAt
  rw [← sum_range X, hl]
  congr 1
  apply List.map_congr_left
  intro k hk
  rw [h.cell hl k (List.mem_range.1 hk)]
  simp [intOf]
theorem sum_set : ∀ (X : List Nat) (k m : Nat), k < X.length → (X.set k m).sum + X.getD k 0 = X.sum + m
  | [], _, _, h => absurd h (by simp)
  | x :: r, 0, m, _ => by simp; omega
  | x :: r, k + 1, m, h => by
    have := sum_set r k m (by simpa using h)
    simp at this ⊢
    omega
/-- Both ends take the lesser one. -/
def low2 (X : List Nat) (f t : Nat) : List Nat := (X.set f (min (X.getD f 0) (X.getD t 0))).set t (min (X.getD f 0) (X.getD t 0))
theorem low2_len (X : List Nat) (f t : Nat) : (low2 X f t).length = X.length := by unfold low2; simp
theorem low2_sum {X : List Nat} {f t : Nat} (hf : f < X.length) (ht : t < X.length) (hne : X.getD f 0 ≠ X.getD t 0) : (low2 X f t).sum < X.sum := by
  have hft : ¬ t = f := by intro h; rw [h] at hne; exact hne rfl
  have h1 := sum_set X f (min (X.getD f 0) (X.getD t 0)) hf
  have h2 := sum_set (X.set f (min (X.getD f 0) (X.getD t 0))) t (min (X.getD f 0) (X.getD t 0)) (by simpa using ht)
  rw [getD_set _ _ _ _ hf, if_neg hft] at h2
  unfold low2
  omega
theorem low2_get {X : List Nat} {f t : Nat} (hf : f < X.length) (ht : t < X.length) (v : Nat) : (low2 X f t).getD v 0 = if v = t ∨ v = f then min (X.getD f 0) (X.getD t 0) else X.getD v 0 := by
  unfold low2
  rw [getD_set _ _ _ _ (by simpa using ht), getD_set _ _ _ _ hf]
  by_cases h1 : v = t
  · simp [h1]
  · by_cases h2 : v = f
    · simp [h2]
    · simp [h1, h2]
theorem low2_R {R : Nat → Nat} {X : List Nat} {f t n : Nat} (hl : X.length = n) (hf : f < n) (ht : t < n) (h : ∀ v, v < n → R (X.getD v 0) = R v) (hR : R f = R t) : ∀ v, v < n → R ((low2 X f t).getD v 0) = R v := by
  intro v hv
  rw [low2_get (by omega) (by omega)]
  have h1 := h f hf
  have h2 := h t ht
  split
  · rename_i e
    rcases Nat.le_total (X.getD f 0) (X.getD t 0) with k | k
    · rw [Nat.min_eq_left k, h1]
      rcases e with e | e
      · rw [e, hR]
      · rw [e]
    · rw [Nat.min_eq_right k, h2]
      rcases e with e | e
      · rw [e]
      · rw [e, hR]
  · exact h v hv
/-- A truth, as a number. -/
def bitOf : Value → Nat
  | .bool true => 1
  | _ => 0
theorem conn_same {B : List A} {X : List Nat} {n : Nat} (h : ∀ v, v < n → lead B (X.getD v 0) = lead B v) (hB : ∀ x ∈ B, X.getD x.f.toNat 0 = X.getD x.t.toNat 0) : ∀ u v, u < n → v < n → (X.getD u 0 = X.getD v 0 ↔ lead B u = lead B v) := by
  intro u v hu hv
  constructor
  · intro e
    rw [← h u hu, ← h v hv, e]
  · intro e
    have h1 := lead_const (S := fun v => X.getD v 0) (l := B) hB u
    have h2 := lead_const (S := fun v => X.getD v 0) (l := B) hB v
    have h3 : X.getD (lead B u) 0 = X.getD u 0 := h1
    have h4 : X.getD (lead B v) 0 = X.getD v 0 := h2
    rw [← h3, ← h4, e]
/-- What a round's regions find. -/
structure ConnE (w W : World) (bx n f t zf zt bk o : Nat) (qb : Bool) (Z : List Nat) (ob : Obj) : Prop where
  x0 : W.cell? ⟨bx, 0, none⟩ = some (.int .i64 (f : Int))
  x1 : W.cell? ⟨bx, 1, none⟩ = some (.int .i64 (t : Int))
  cf : W.cell? ⟨w.heap.size + 1, f, none⟩ = some (.int .i64 (zf : Int))
  ct : W.cell? ⟨w.heap.size + 1, t, none⟩ = some (.int .i64 (zt : Int))
  ff : W.frozen? ⟨w.heap.size + 1, f, none⟩ = false
  ft : W.frozen? ⟨w.heap.size + 1, t, none⟩ = false
  ck : W.cell? ⟨bk, o, none⟩ = some (.bool qb)
  ho : OwnL W (w.heap.size + 1) n Z
  hg : W.heap[w.heap.size]? = some ob
  hb : Below w.heap.size w W
theorem ConnE.drewN {w W : World} {bx n f t zf zt bk o : Nat} {qb : Bool} {Z : List Nat} {ob : Obj} (h : ConnE w W bx n f t zf zt bk o qb Z ob) (m : Nat) : ConnE w (W.drewN m) bx n f t zf zt bk o qb Z ob :=
  ⟨h.x0, h.x1, h.cf, h.ct, h.ff, h.ft, h.ck, h.ho, h.hg, h.hb.trans (below_drewN _ _ _)⟩
set_option maxRecDepth 100000 in
set_option maxHeartbeats 3200000 in
theorem rconn_any (n : Nat) (a : Option Addr) (l : List A) (cap : Nat) (a' : Option Addr) (q : List Bool) (cap' : Nat) (B : List A) (w : World) (hn : n ≤ 1024) (hl : l.length ≤ 8192) (hQ : q.length = l.length) (hall : ∀ x ∈ l, (0 ≤ x.f ∧ x.f < n) ∧ (0 ≤ x.t ∧ x.t < n))
    (hB1 : ∀ i, i < l.length → q.getD i false = true → l.getD i A.zero ∈ B) (hB2 : ∀ x ∈ B, ∃ i, i < l.length ∧ q.getD i false = true ∧ l.getD i A.zero = x) (hr : Arcs w a l) (hkp : Bools (· < w.heap.size) w a' q) :
    Calls Tryz.prog 65 #[.agg #[.int .i64 n, .slice a l.length cap], .slice a' l.length cap'] w fun e w' => ∃ g, e = .returned (.slice (some ⟨g, 0, none⟩) n n) ∧ OwnL w' g n (labs (lead B) n) ∧ w.heap.size ≤ g ∧ Below w.heap.size w w' := by
  obtain ⟨i0, hi, hz0, hz1, hz2⟩ := info_parts info3
  have hb0 : Below w.heap.size w (w.alloc (.cells #[.int .i64 n, .slice a l.length cap] 24)) := (Below.refl _ _).alloc (Nat.le_refl _) _
  have hg0 := heap_top w (.cells #[.int .i64 n, .slice a l.length cap] 24)
  have s0 := lt_of_block hg0
  obtain ⟨b, o, hab⟩ := hr.b.get
  obtain ⟨bk, ok, habk⟩ := hkp.get
  rw [hQ] at habk
  have HALL := Lib.hid hall
  have HARC := Lib.hid (fun i (h : i < l.length) (hq : q.getD i false = true) => lead_arc (hB1 i h hq))
  have HB2 := Lib.hid hB2
  have HRT := Lib.hid (lead_RT B)
  clear hall hB1 hB2 hQ
  go_enter Tryz.func65, Tryz.ntmps65
  go_wp2_with (at_make; refine wpList_make_full _ rfl (.tmp 12) (.tmp 12) 25 rfl _ 3 i0 (.int .i64 0) 1 Tryz.underlying25 hi hz0 hz1 .i64 .i64 n n n rfl rfl rfl rfl (by rw [hz2]; omega) (by unfold maxLen; omega) (Nat.le_refl _) ?_; intro w1 hown1 hgrow1; have hb1 := (Below.refl _ _).grown hgrow1 (Nat.le_refl _) (by intro k hk; cases hk); have hg1 := (hb1.block _ s0).trans hg0; obtain ⟨⟨g0, g1⟩, gf0, gf1⟩ := two_cells hg1)
  have eg : (w.alloc (.cells #[.int .i64 n, .slice a l.length cap] 24)).heap.size = w.heap.size + 1 := by simp
  rw [eg] at hown1
  have hown0 : OwnL w1 (w.heap.size + 1) n (List.replicate n 0) := by
    have e : (madeCells (Value.int .i64 0).cells (n * 1)).toList = cellsI (ints (List.replicate n 0)) := by
      show (madeCells #[Value.int .i64 0] (n * 1)).toList = _
      rw [toList_madeCells_one, Nat.mul_one]
      unfold cellsI ints
      simp
    rw [e] at hown1
    exact hown1
  have b1 := bthen hb0 hb1 (by simp)
  clear hown1 hgrow1 hb1 hb0 hg0 s0 eg g0 g1 gf0 gf1
  go_loopw [6] (fun i wr => ∃ (k : Nat) (X : List Nat), k ≤ n ∧ i = .int .i64 (k : Int) ∧ Hid (X.length = n) ∧ Hid (∀ j, j < k → X.getD j 0 = j) ∧ OwnL wr (w.heap.size + 1) n X ∧ wr.heap[w.heap.size]? = some (.cells #[.int .i64 n, .slice a l.length cap] 24) ∧ Below w.heap.size w wr) (fun i _ => n - (intOf i).toNat)
  case atStart => exact ⟨0, List.replicate n 0, Nat.zero_le _, rfl, by show _ = _; simp, by intro j hj; omega, hown0, hg1, b1⟩
  case round =>
    obtain ⟨k, X, hk, rfl, HX, HJ, hown, hg, hb⟩ := hrel
    clear hown0 hg1 b1
    obtain ⟨⟨g0, g1⟩, gf0, gf1⟩ := two_cells hg
    have hsz := hown.lt
    by_cases hlt : k < n
    · have cx := hown.cell HX.out k hlt
      have fx := hown.free k
      have hst := hown.set k k
      have HN : Hid (∀ j, j < k + 1 → (X.set k k).getD j 0 = j) := by
        show ∀ j, _
        intro j hj
        rw [getD_set _ _ _ _ (by rw [HX.out]; exact hlt)]
        split
        · rename_i e; exact e.symm
        · exact HJ.out j (by omega)
      generalize X.getD k 0 = x0 at *
      go_wp2_with fail
      have z1 := (Below.refl (w.heap.size + 1) wr).setCell (p := ⟨w.heap.size + 1, k, none⟩) (Nat.le_refl _) (.int .i64 (k : Int))
      exact ⟨⟨k + 1, _, by omega, by go_num, by show _ = _; rw [List.length_set]; exact HX.out, HN, hst, (z1.block _ (Nat.lt_succ_self _)).trans hg, hb.trans (z1.mono (Nat.le_succ _))⟩, by simp [intOf]; omega⟩
    · have HI : Hid (∀ v, v < n → lead B (X.getD v 0) = lead B v) := fun v hv => by rw [HJ.out v (by omega)]
      clear HJ
      go_wp2_with fail
      go_loopw [7] (fun i wr => ∃ (again : Bool) (X : List Nat), i = .bool again ∧ Hid (X.length = n) ∧ Hid (∀ v, v < n → lead B (X.getD v 0) = lead B v) ∧ Hid (again = false → ∀ j, j < l.length → q.getD j false = true → X.getD (l.getD j A.zero).f.toNat 0 = X.getD (l.getD j A.zero).t.toNat 0) ∧ OwnL wr (w.heap.size + 1) n X ∧ wr.heap[w.heap.size]? = some (.cells #[.int .i64 n, .slice a l.length cap] 24) ∧ Below w.heap.size w wr) (fun i wr => 2 * sumAt wr (w.heap.size + 1) n + bitOf i)
      case atStart => exact ⟨true, X, rfl, HX, HI, (by intro h; cases h), hown, hg, hb⟩
      case round =>
        obtain ⟨again, Y, rfl, HY, HYI, HYA, ho2, hg2, hb2⟩ := hrel
        clear hown hg hb g0 g1 gf0 gf1 hsz
        cases again
        · have HSAME : Hid (∀ u v, u < n → v < n → (Y.getD u 0 = Y.getD v 0 ↔ lead B u = lead B v)) := conn_same HYI.out (fun x hx => by
            obtain ⟨i, hi, hq, rfl⟩ := HB2.out x hx
            exact HYA.out rfl i hi hq)
          go_wp2_with fail
          refine (rtidy_any (w.heap.size + 1) n Y (lead B) _ hn HRT.out HY.out HSAME.out ho2).mono ?_
          rintro e w8 ⟨rfl, ho8, hb8⟩
          have s8 := hb2.size
          go_wp2_with fail
          go_ret
          exact ⟨wr.heap.size, rfl, ho8, s8, bthen hb2 hb8 s8⟩
        · obtain ⟨w3, hw3⟩ : ∃ x, x = wr := ⟨wr, rfl⟩
          subst hw3
          have HSUM : Hid (sumAt w3 (w.heap.size + 1) n = Y.sum) := sumAt_own ho2 HY.out
          rw [HSUM.out]
          have hs2 := ho2.lt
          go_wp2_with fail
          go_loopw [7, 8] (fun ag i wr => ∃ (again : Bool) (k : Nat) (Z : List Nat), ag = .bool again ∧ k ≤ l.length ∧ i = .int .i64 (k : Int) ∧ Hid (Z.length = n) ∧ Hid (∀ v, v < n → lead B (Z.getD v 0) = lead B v) ∧ Hid (again = false → Z = Y ∧ ∀ j, j < k → q.getD j false = true → Y.getD (l.getD j A.zero).f.toNat 0 = Y.getD (l.getD j A.zero).t.toNat 0) ∧ Hid (again = true → Z.sum < Y.sum) ∧ OwnL wr (w.heap.size + 1) n Z ∧ wr.heap[w.heap.size]? = some (.cells #[.int .i64 n, .slice a l.length cap] 24) ∧ Below w.heap.size w wr) (fun _ i _ => l.length - (intOf i).toNat)
          case atStart => exact ⟨false, 0, Y, rfl, Nat.zero_le _, rfl, HY, HYI, (fun _ => ⟨rfl, by intro j hj; omega⟩), (by intro h; cases h), ho2, hg2, hb2⟩
          case round =>
            obtain ⟨again, k, Z, rfl, hk3, rfl, HZ, HZI, HZA, HZS, ho3, hg3, hb3⟩ := hrel
            clear ho2 hg2 hb2 hs2
            obtain ⟨⟨g0, g1⟩, gf0, gf1⟩ := two_cells hg3
            have hsz := ho3.lt
            by_cases hkl : k < l.length
            · obtain ⟨rfl, hbl, hat⟩ := hab (by omega)
              obtain ⟨c0, c1, c2⟩ := (hat k hkl).onB hbl hb3
              have hx := HALL.out _ (mem_getD hkl)
              obtain ⟨rfl, hbk, hck⟩ := habk (by omega)
              have ck := (hb3.cell (p := ⟨bk, ok + k, none⟩) hbk).trans (hck k hkl)
              have HRA := Lib.hid (HARC.out k hkl)
              generalize hxk : l.getD k A.zero = x at *
              obtain ⟨xf, xt, xw⟩ := x
              obtain ⟨f, hf⟩ : ∃ f : Nat, xf = f := ⟨xf.toNat, by have := hx.1.1; simp at this; omega⟩
              obtain ⟨t, ht⟩ : ∃ t : Nat, xt = t := ⟨xt.toNat, by have := hx.2.1; simp at this; omega⟩
              subst hf ht
              have hfn : f < n := by have := hx.1.2; simp at this; omega
              have htn : t < n := by have := hx.2.2; simp at this; omega
              have HXK := Lib.hid hxk
              clear hx hxk
              have cf := ho3.cell HZ.out f hfn
              have ct := ho3.cell HZ.out t htn
              have ff := ho3.free f
              have ft := ho3.free t
              have bx := (Below.refl wr.heap.size wr).alloc (Nat.le_refl _) (.cells #[.int .i64 (f : Int), .int .i64 (t : Int), .int .u32 xw] 50)
              obtain ⟨y0, y1, _⟩ := three_cells (heap_top wr (.cells #[.int .i64 (f : Int), .int .i64 (t : Int), .int .u32 xw] 50))
              have ho5 : OwnL (wr.alloc (.cells #[.int .i64 (f : Int), .int .i64 (t : Int), .int .u32 xw] 50)) (w.heap.size + 1) n Z := World.ownsRow.alloc ho3 _
              have hE5 : ConnE w (wr.alloc (.cells #[.int .i64 (f : Int), .int .i64 (t : Int), .int .u32 xw] 50)) wr.heap.size n f t (Z.getD f 0) (Z.getD t 0) bk (ok + k) (q.getD k false) Z (.cells #[.int .i64 n, .slice (some ⟨b, o, none⟩) l.length cap] 24) :=
                ⟨y0, y1, (bx.cell (p := ⟨w.heap.size + 1, f, none⟩) hsz).trans cf, (bx.cell (p := ⟨w.heap.size + 1, t, none⟩) hsz).trans ct, ho5.free f, ho5.free t, (bx.cell (p := ⟨bk, ok + k, none⟩) (show bk < wr.heap.size by omega)).trans ck, ho5, (bx.block _ (show w.heap.size < wr.heap.size by omega)).trans hg3, hb3.trans (bx.mono (by omega))⟩
              have HE5 := Lib.hid hE5
              have HLN := Lib.hid (low2_len Z f t)
              have HLR : Hid (q.getD k false = true → ∀ v, v < n → lead B ((low2 Z f t).getD v 0) = lead B v) := fun hq => low2_R HZ.out hfn htn HZI.out (by have := HRA.out hq; simpa using this)
              have HLS : Hid (Z.getD f 0 ≠ Z.getD t 0 → (low2 Z f t).sum < Z.sum) := low2_sum (by rw [HZ.out]; exact hfn) (by rw [HZ.out]; exact htn)
              have HLD : Hid (low2 Z f t = (Z.set f (min (Z.getD f 0) (Z.getD t 0))).set t (min (Z.getD f 0) (Z.getD t 0))) := rfl
              have HKA : Hid (again = false → Z.getD f 0 = Z.getD t 0 ∨ q.getD k false = false → Z = Y ∧ ∀ j, j < k + 1 → q.getD j false = true → Y.getD (l.getD j A.zero).f.toNat 0 = Y.getD (l.getD j A.zero).t.toNat 0) := by
                intro h1 h2
                obtain ⟨e1, e2⟩ := HZA.out h1
                refine ⟨e1, fun j hj hq => ?_⟩
                by_cases e : j = k
                · subst e
                  rw [HXK.out]
                  rcases h2 with h2 | h2
                  · rw [e1] at h2
                    simpa using h2
                  · rw [h2] at hq
                    cases hq
                · exact e2 j (by omega) hq
              have HZLE : Hid (Z.sum ≤ Y.sum) := by
                show _ ≤ _
                cases again
                · rw [(HZA.out rfl).1]; exact Nat.le_refl _
                · exact Nat.le_of_lt (HZS.out rfl)
              clear bx y0 y1 ho5 hE5
              have hlsx : wr.heap.size ≠ w.heap.size + 1 := by omega
              go_wp2_with fail
              clear c0 c1 c2 ck cf ct ff ft g0 g1 gf0 gf1 ho3 hg3 hb3
              generalize hW5 : wr.alloc (.cells #[.int .i64 (f : Int), .int .i64 (t : Int), .int .u32 xw] 50) = W5 at *
              clear hW5 HXK HRA HZA
              generalize Z.getD f 0 = zf at *
              generalize Z.getD t 0 = zt at *
              generalize low2 Z f t = Z2 at *
              generalize q.getD k false = qb at *
              obtain ⟨y0, y1, cf, ct, ff, ft, ck, _, _, _⟩ := HE5.out
              go_quiet (fail)
              have HMN : Hid (min (zf : Int) (zt : Int) = ((min zf zt : Nat) : Int)) := by show _ = _; omega
              rw [HMN.out]
              have HE6 := Lib.hid (HE5.out.drewN nq)
              clear y0 y1 cf ct ff ft ck HE5 HMN
              generalize W5.drewN nq = W6 at *
              obtain ⟨y0, y1, cf, ct, ff, ft, ck, ho6, hg6, hb6⟩ := HE6.out
              generalize min zf zt = mn at *
              have HO6 := Lib.hid ho6
              have HG6 := Lib.hid hg6
              clear ho6 hg6
              by_cases hqb : qb = true
              · subst hqb
                by_cases hz : zf = zt
                · have HA2 := Lib.hid (fun h => HKA.out h (Or.inl hz))
                  subst hz
                  clear HKA HLS HLR HLD
                  go_wp2_with fail
                  go_quiet (fail)
                  go_wp2_with fail
                  exact ⟨⟨again, k + 1, Z, rfl, by omega, by go_num, HZ, HZI, HA2, HZS, HO6.out, HG6.out, hb6.trans (below_drewN _ _ _)⟩, by simp [intOf]; omega⟩
                · have hz' : ((zf : Int) == (zt : Int)) = false := beq_eq_false_iff_ne.2 (by omega)
                  have HS2 := Lib.hid (HLS.out hz)
                  have HR2 := Lib.hid (HLR.out rfl)
                  clear HKA HLS HLR hz
                  go_wp2_with fail
                  go_quiet (fail)
                  go_wp2_with fail
                  have HE7 := Lib.hid (HE6.out.drewN nq)
                  clear y0 y1 cf ct ff ft ck HE6 HO6 HG6 hb6
                  generalize W6.drewN nq = W7 at *
                  obtain ⟨y0, y1, cf, ct, ff, ft, ck, ho7, hg7, hb7⟩ := HE7.out
                  have HO7 := Lib.hid ho7
                  have HG7 := Lib.hid hg7
                  have ct2 := (ho7.set f mn).cell (by rw [List.length_set]; exact HZ.out) t htn
                  have ft2 := (ho7.set f mn).free t
                  generalize (Z.set f mn).getD t 0 = zt2 at *
                  clear ho7 hg7 ck
                  go_region
                  go_wp2_with fail
                  have z1 := ((Below.refl (w.heap.size + 1) W7).setCell (p := ⟨w.heap.size + 1, f, none⟩) (Nat.le_refl _) (.int .i64 (mn : Int))).setCell (p := ⟨w.heap.size + 1, t, none⟩) (Nat.le_refl _) (.int .i64 (mn : Int))
                  exact ⟨⟨true, k + 1, Z2, rfl, by omega, by go_num, HLN.out.trans HZ.out, HR2, (by intro h; cases h), (fun _ => Nat.lt_of_lt_of_le HS2.out HZLE.out), by rw [HLD.out]; exact (HO7.out.set f mn).set t mn, (z1.block _ (Nat.lt_succ_self _)).trans HG7.out, (hb7.trans (z1.mono (Nat.le_succ _))).drew⟩, by simp [intOf]; omega⟩
              · have hqb' : qb = false := by simpa using hqb
                have HA2 := Lib.hid (fun h => HKA.out h (Or.inr hqb'))
                subst hqb'
                clear HKA HLS HLR HLD hqb
                go_wp2_with fail
                go_quiet (fail)
                go_wp2_with fail
                exact ⟨⟨again, k + 1, Z, rfl, by omega, by go_num, HZ, HZI, HA2, HZS, HO6.out, HG6.out, hb6.trans (below_drewN _ _ _)⟩, by simp [intOf]; omega⟩
            · go_wp2_with fail
              refine ⟨⟨again, Z, rfl, HZ, HZI, ?_, ho3, hg3, hb3⟩, ?_⟩
              · intro h j hj hq
                obtain ⟨e1, e2⟩ := HZA.out h
                rw [e1]
                exact e2 j (by omega) hq
              · rw [sumAt_own ho3 HZ.out]
                cases again
                · rw [(HZA.out rfl).1]
                  simp [bitOf]
                · have := HZS.out rfl
                  simp [bitOf]
                  omega
end Go.Proofs.YtpgadcacimjlaaaGreat.T3
