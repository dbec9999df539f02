/-
  Both searches of near.Between.
-/
import Derived.Test.YtomlmphdnoempabBFun
namespace Go.Proofs.Ytomlmphdnoempab
open Go.RowKit
open Hp (HR HRto Fr upd upd_self upd_ne TopIs)
theorem HR.same' {w w' : World} {h n : Nat} {T : Nat → Option Int} {D : Nat → Prop} (r : HR w h n T D) (hs : ∀ k, D k → w'.heap[k]? = w.heap[k]?) : HR w' h n T D := by
  obtain ⟨p, v, ms, pl, r, f, rfl⟩ := r
  exact ⟨p, v, ms, pl, r.same hs, f, rfl⟩
theorem Sr.same {w w' : World} {f : Nat} {a : Option Addr} {cap : Nat} {l : List A} {n b1 b2 h : Nat} {fn : Value} {T : Nat → Option Int} {D : Nat → Prop} (s : Sr w f a cap l n b1 b2 h fn T D) (h1 : w'.heap[f]? = w.heap[f]?) (h2 : w'.heap[b1]? = w.heap[b1]?) (h3 : w'.heap[b2]? = w.heap[b2]?) (hd : ∀ k, D k → w'.heap[k]? = w.heap[k]?) : Sr w' f a cap l n b1 b2 h fn T D :=
  ⟨h1.trans s.hd, s.t1.same h2, s.t2.same h3, HR.same' s.hp hd, s.sep⟩
/-- One side. -/
structure Sd where
  f : Nat
  b1 : Nat
  b2 : Nat
  h : Nat
  c : Nat
  bf : Nat
  cs : Nat
  co : Nat
  a : Option Addr
  cap : Nat
  l : List A
def Sd.P (z : Sd) (k : Nat) : Prop := k = z.f ∨ k = z.b1 ∨ k = z.b2 ∨ k = z.c ∨ k = z.cs ∨ k = z.co
def Sd.cl (z : Sd) (bb : Nat) : Array Value := #[.pointer (some ⟨z.cs, 0, none⟩), .pointer (some ⟨bb, 0, none⟩), .pointer (some ⟨z.co, 0, none⟩)]
def Sd.fn (z : Sd) (bb : Nat) : Value := .func (.func 15) #[] (z.cl bb)
def Sd.S (z : Sd) (n bb : Nat) (w : World) (T : Nat → Option Int) (D : Nat → Prop) : Prop := Sr w z.f z.a z.cap z.l n z.b1 z.b2 z.h (z.fn bb) T D
def Sd.R (z : Sd) (bo n bb : Nat) : World → (Nat → Int) → Int × (Nat → Int) → Prop := R3 n z.c z.bf z.cs z.co bo bb
def Sd.Q (z : Sd) (bo bb : Nat) : Nat → Prop := Q3 z.c z.bf z.cs z.co bo bb
def Sd.G (z : Sd) (bo n bb : Nat) (w0 wO : World) (O : Nat → Prop) : World → (Nat → Int) → (Nat → Option Int) → Int × (Nat → Int) → Prop := SGO w0 wO O z.f z.a z.cap z.l n z.b1 z.b2 z.h (z.fn bb) (z.R bo n bb) (z.Q bo bb)
/-- Both. -/
def Two (n bb : Nat) (w0 : World) (z y : Sd) (w : World) (F : Nat → Int) (T : Nat → Option Int) (G : Nat → Int) (U : Nat → Option Int) (best : Int) : Prop :=
  ∃ D1 D2, z.S n bb w T D1 ∧ y.S n bb w U D2 ∧ z.R y.bf n bb w F (best, G) ∧ y.R z.bf n bb w G (best, F) ∧ (∀ k, D1 k → ¬ z.Q y.bf bb k ∧ ¬ y.P k ∧ ¬ D2 k ∧ w0.heap.size ≤ k) ∧ (∀ k, D2 k → ¬ y.Q z.bf bb k ∧ ¬ z.P k ∧ w0.heap.size ≤ k) ∧ Below w0.heap.size w0 w
theorem Two.swap {n bb : Nat} {w0 : World} {z y : Sd} {w : World} {F G : Nat → Int} {T U : Nat → Option Int} {best : Int} (h : Two n bb w0 z y w F T G U best) : Two n bb w0 y z w G U F T best := by
  obtain ⟨D1, D2, s1, s2, r1, r2, d1, d2, hb⟩ := h
  exact ⟨D2, D1, s2, s1, r2, r1, fun k hk => ⟨(d2 k hk).1, (d2 k hk).2.1, fun e => (d1 k e).2.2.1 hk, (d2 k hk).2.2⟩, fun k hk => ⟨(d1 k hk).1, (d1 k hk).2.1, (d1 k hk).2.2.2⟩, hb⟩
theorem two_of {n bb : Nat} {w0 wO w : World} {z y : Sd} {F G : Nat → Int} {T U : Nat → Option Int} {best : Int} {D2 : Nat → Prop} (s2 : y.S n bb wO U D2) (h1 : wO.heap[y.c]? = some (.cells #[.slice (some ⟨y.bf, 0, none⟩) n n] 34)) (h2 : wO.heap[y.cs]? = some (.cells #[.func (.func 26) #[] #[.pointer (some ⟨y.c, 0, none⟩)]] 48)) (h3 : wO.heap[y.co]? = some (.cells #[.slice (some ⟨z.bf, 0, none⟩) n n] 34))
    (hd : ∀ k, D2 k → ¬ y.Q z.bf bb k ∧ ¬ z.P k ∧ w0.heap.size ≤ k) (sg : z.G y.bf n bb w0 wO (fun k => y.P k ∨ D2 k) w F T (best, G)) : Two n bb w0 z y w F T G U best := by
  obtain ⟨D1, s1, r1, d1, hb, ho⟩ := sg
  have hp : ∀ k, y.P k → w.heap[k]? = wO.heap[k]? := fun k hk => (ho k (Or.inl hk)).2
  have r1' := r1
  obtain ⟨⟨q1, q2⟩, q3, q4, q5, q6, q7, q8, q9⟩ := r1'
  refine ⟨D1, D2, s1, Sr.same s2 (hp _ (Or.inl rfl)) (hp _ (Or.inr (Or.inl rfl))) (hp _ (Or.inr (Or.inr (Or.inl rfl)))) (fun k hk => (ho k (Or.inr hk)).2), r1, ?_, fun k hk => ⟨(d1 k hk).1, fun e => (d1 k hk).2.1 (Or.inl e), fun e => (d1 k hk).2.1 (Or.inr e), (d1 k hk).2.2⟩, hd, hb⟩
  exact ⟨⟨(hp _ (Or.inr (Or.inr (Or.inr (Or.inl rfl))))).trans h1, q5⟩, (hp _ (Or.inr (Or.inr (Or.inr (Or.inr (Or.inl rfl)))))).trans h2, (hp _ (Or.inr (Or.inr (Or.inr (Or.inr (Or.inr rfl)))))).trans h3, q2, q6, q7, q9, q8⟩
/-- The sides lie apart. -/
structure Apart (n bb : Nat) (w0 : World) (z y : Sd) : Prop where
  p : ∀ k, y.P k → ¬ z.Q y.bf bb k
  q1 : ¬ z.Q y.bf bb z.f
  q2 : ¬ z.Q y.bf bb z.b1
  q3 : ¬ z.Q y.bf bb z.b2
  q : ∀ k, z.Q y.bf bb k → w0.heap.size ≤ k
  fu : Fun n 15 (z.cl bb) Al (X := Int × (Nat → Int)) (fun _ x v d _ x' => x' = (minI x.1 (sat d (x.2 v)), x.2)) (z.R y.bf n bb) (z.Q y.bf bb)
  arcs : Arcs w0 z.a z.l
theorem Two.sgo {n bb : Nat} {w0 w : World} {z y : Sd} {F G : Nat → Int} {T U : Nat → Option Int} {best : Int} (ap : Apart n bb w0 z y) (h : Two n bb w0 z y w F T G U best) :
    ∃ O : Nat → Prop, z.G y.bf n bb w0 w O w F T (best, G) ∧ (∀ k, O k → ¬ z.Q y.bf bb k) ∧ ∀ w' F' T' best', z.G y.bf n bb w0 w O w' F' T' (best', G) → Two n bb w0 z y w' F' T' G U best' := by
  obtain ⟨D1, D2, s1, s2, r1, r2, d1, d2, hb⟩ := h
  obtain ⟨⟨q1, q2⟩, q3, q4, q5, q6, q7, q8, q9⟩ := r2
  have hlt : ∀ k, y.P k → k < w.heap.size := by
    rintro k (rfl | rfl | rfl | rfl | rfl | rfl)
    · exact lt_of_block s2.hd
    · exact s2.t1.lt
    · exact s2.t2.lt
    · exact lt_of_block q1
    · exact lt_of_block q3
    · exact lt_of_block q4
  have hbo : ∀ k, D2 k → ¬ z.Q y.bf bb k := by
    intro k hk
    have h1 := (d2 k hk).1
    have h2 := (d2 k hk).2.1
    rintro (e | e | e | e | e | e)
    · exact h2 (Or.inr (Or.inr (Or.inr (Or.inl e))))
    · exact h1 (Or.inr (Or.inr (Or.inr (Or.inr (Or.inl e)))))
    · exact h2 (Or.inr (Or.inr (Or.inr (Or.inr (Or.inl e)))))
    · exact h2 (Or.inr (Or.inr (Or.inr (Or.inr (Or.inr e)))))
    · exact h1 (Or.inr (Or.inl e))
    · exact h1 (Or.inr (Or.inr (Or.inr (Or.inr (Or.inr e)))))
  refine ⟨fun k => y.P k ∨ D2 k, ⟨D1, s1, r1, fun k hk => ⟨(d1 k hk).1, fun e => ?_, (d1 k hk).2.2.2⟩, hb, fun k hk => ⟨?_, rfl⟩⟩, fun k hk => ?_, fun w' F' T' best' sg => two_of s2 q1 q3 q4 d2 sg⟩
  · rcases e with e | e
    · exact (d1 k hk).2.1 e
    · exact (d1 k hk).2.2.1 e
  · rcases hk with e | e
    · exact hlt k e
    · exact s2.hp.lt k e
  · rcases hk with e | e
    · exact ap.p k e
    · exact hbo k e
/-- One side goes on by a vertex. -/
theorem two_step {n bb : Nat} {w0 w : World} {z y : Sd} {F G : Nat → Int} {T U : Nat → Option Int} {best : Int} {s K : Nat} (ap : Apart n bb w0 z y) (g : RG n z.l) (h : Two n bb w0 z y w F T G U best) (hi : Inv z.l Al s F T K (fun _ => False)) (J : (Nat → Int) → Int → Prop) (hj : J F best)
    (jt : ∀ F T K v d k j best, Mid z.l Al s F T K v d k → j < z.l.length → src (ar z.l j) = v → sat d (ar z.l j).w < F (dst (ar z.l j)) → J F best → J (updI F (dst (ar z.l j)) (sat d (ar z.l j).w)) (minI best (sat (sat d (ar z.l j).w) (G (dst (ar z.l j)))))) (hne : ∃ u k, T u = some k) :
    Calls Try.prog 19 #[.pointer (some ⟨z.f, 0, none⟩)] w fun e w' => e = .returned (.tuple #[]) ∧ ∃ F' T' best', Two n bb w0 z y w' F' T' G U best' ∧ Inv z.l Al s F' T' (K + 1) (fun _ => False) ∧ J F' best' ∧ dn F' T' n = dn F T n + 1 := by
  obtain ⟨O, sg, hO, hback⟩ := h.sgo ap
  have sy := sys_ofO (wO := w) (h := z.h) (cap := z.cap) (awalk43 _ _ _) ap.fu ap.arcs ap.q1 ap.q2 ap.q3 ap.q hO
  refine (step_any sy g s (fun F _ x => J F x.1 ∧ x.2 = G) (fun _ _ _ _ _ hj _ _ => hj) ?_ sg hi ⟨hj, rfl⟩ hne).mono ?_
  · rintro F T ⟨be, G'⟩ x' K v d k j hm hjl hs _ hlt ⟨h1, h2⟩ rfl
    cases h2
    exact ⟨jt F T K v d k j be hm hjl hs hlt h1, rfl⟩
  · rintro e w' ⟨rfl, F', T', ⟨be, G'⟩, sg', hi', ⟨hj', h2⟩, hd⟩
    cases h2
    exact ⟨rfl, F', T', be, hback w' F' T' be sg', hi', hj', hd⟩
/-- How far the next vertex lies. -/
theorem two_near {n bb : Nat} {w0 w : World} {z y : Sd} {F G : Nat → Int} {T U : Nat → Option Int} {best : Int} (h : Two n bb w0 z y w F T G U best) :
    Calls Try.prog 18 #[.pointer (some ⟨z.f, 0, none⟩)] w fun e w' => ∃ q, e = .returned (.int .u64 q) ∧ NearIs T q ∧ Below w.heap.size w w' := by
  obtain ⟨D1, D2, s1, _⟩ := h
  exact nearest_any s1.hd s1.hp
theorem Two.on {n bb : Nat} {w0 w w' : World} {z y : Sd} {F G : Nat → Int} {T U : Nat → Option Int} {best : Int} (h : Two n bb w0 z y w F T G U best) (hb' : Below w.heap.size w w') : Two n bb w0 z y w' F T G U best := by
  obtain ⟨D1, D2, s1, s2, ⟨⟨q1, q2⟩, q3, q4, q5, q6, q7, q8, q9⟩, ⟨⟨p1, p2⟩, p3, p4, p5, p6, p7, p8, p9⟩, d1, d2, hb⟩ := h
  have bk : ∀ {k : Nat} {o : Obj}, w.heap[k]? = some o → w'.heap[k]? = some o := fun {k o} e => (hb'.block k (lt_of_block e)).trans e
  exact ⟨D1, D2, Sr.on s1 hb', Sr.on s2 hb', ⟨⟨bk q1, bk q2⟩, bk q3, bk q4, bk q5, bk q6, q7, q8, q9⟩, ⟨⟨bk p1, bk p2⟩, bk p3, bk p4, bk p5, bk p6, p7, p8, p9⟩, d1, d2, hb.trans (hb'.mono hb.size)⟩
end Go.Proofs.Ytomlmphdnoempab
