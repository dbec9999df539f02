/-
  Two searches in one memory: what the one does leaves the other as it is.
-/
import Derived.Test.YtomlmphdnoempabFromC
import Derived.Test.YtomlmphdnoempabBMath
namespace Go.Proofs.Ytomlmphdnoempab
open Go.RowKit
open Hp (HR HRto Fr upd upd_self upd_ne TopIs)
/-- A search and its tables, and blocks O that stay as they were in wO. -/
def SGO (w0 wO : World) (O : Nat → Prop) (f : Nat) (a : Option Addr) (cap : Nat) (l : List A) (n b1 b2 h : Nat) (fn : Value) {X : Type} (R : World → (Nat → Int) → X → Prop) (Q : Nat → Prop) (w : World) (F : Nat → Int) (T : Nat → Option Int) (x : X) : Prop :=
  ∃ D, Sr w f a cap l n b1 b2 h fn T D ∧ R w F x ∧ (∀ k, D k → ¬ Q k ∧ ¬ O k ∧ w0.heap.size ≤ k) ∧ Below w0.heap.size w0 w ∧ ∀ k, O k → k < w.heap.size ∧ w.heap[k]? = wO.heap[k]?
theorem sys_ofO {w0 wO : World} {O : Nat → Prop} {f n : Nat} {a : Option Addr} {cap : Nat} {l : List A} {b1 b2 h fid : Nat} {cs : Array Value} {ok : Nat → Bool} {X : Type} {XR : (Nat → Int) → X → Nat → Int → Int → X → Prop} {R : World → (Nat → Int) → X → Prop} {Q : Nat → Prop}
    (aw : AWalk fid cs) (fu : Fun n fid cs ok XR R Q) (hr : Arcs w0 a l) (q1 : ¬ Q f) (q2 : ¬ Q b1) (q3 : ¬ Q b2) (hQ : ∀ k, Q k → w0.heap.size ≤ k) (hO : ∀ k, O k → ¬ Q k) : Sys f n a cap l b1 b2 h (.func (.func fid) #[] cs) ok XR (SGO w0 wO O f a cap l n b1 b2 h (.func (.func fid) #[] cs) R Q) := by
  have hon : ∀ {w w' F T x}, SGO w0 wO O f a cap l n b1 b2 h (.func (.func fid) #[] cs) R Q w F T x → Below w.heap.size w w' → SGO w0 wO O f a cap l n b1 b2 h (.func (.func fid) #[] cs) R Q w' F T x := by
    rintro w w' F T x ⟨D, s, r, hd, hb, ho⟩ hb'
    exact ⟨D, s.on hb', fu.same r (fun k hk => hb'.block k (fu.lt r hk)), hd, hb.trans (hb'.mono hb.size), fun k hk => ⟨Nat.lt_of_lt_of_le (ho k hk).1 hb'.size, (hb'.block k (ho k hk).1).trans (ho k hk).2⟩⟩
  refine ⟨fun ⟨D, s, _⟩ => s.hd, fun ⟨D, s, _⟩ => s.t1, fun ⟨D, s, _⟩ => s.t2, fun ⟨D, _, _, _, hb, _⟩ => hr.on hb, ?_, hon, ?_⟩
  · rintro w F T x ⟨D, s, r, hd, hb, ho⟩
    refine ⟨D, s.hp, fun w' T' ⟨D', hp, hd', hf⟩ => ⟨D', s.heap hp hd' hf, fu.same r (fun k hk => hf.block k (fu.lt r hk) (fun e => (hd k e).1 hk)), fun k hk => ?_, ?_, fun k hk => ?_⟩⟩
    · rcases hd' k hk with e | e
      · exact hd k e
      · exact ⟨fun e' => by have := fu.lt r e'; omega, fun e' => by have := (ho k e').1; omega, by have := hb.size; omega⟩
    · exact hb.trans (hf.below hb.size (fun k hk => (hd k hk).2.2))
    · exact ⟨Nat.lt_of_lt_of_le (ho k hk).1 hf.size, (hf.block k (ho k hk).1 (fun e => (hd k e).2.1 hk)).trans (ho k hk).2⟩
  · intro w w1 F T x v d y hs hb1 hv hd0 hd1 hk
    obtain ⟨D, s1, r1, hd, hb, ho1⟩ := hs
    have hQlt : ∀ k, Q k → k < w1.heap.size := fun k hk => fu.lt r1 hk
    have hDlt : ∀ k, D k → k < w1.heap.size := s1.hp.lt
    have s := s1.on hb1
    have r := fu.same r1 (fun k hk => hb1.block k (hQlt k hk))
    have hbw := hb.trans (hb1.mono hb.size)
    have ho : ∀ k, O k → k < w.heap.size ∧ w.heap[k]? = wO.heap[k]? := fun k hk => ⟨Nat.lt_of_lt_of_le (ho1 k hk).1 hb1.size, (hb1.block k (ho1 k hk).1).trans (ho1 k hk).2⟩
    have ho2 : ∀ w2, Fr Q w w2 → ∀ k, O k → k < w2.heap.size ∧ w2.heap[k]? = wO.heap[k]? := fun w2 hf k hk => ⟨Nat.lt_of_lt_of_le (ho k hk).1 hf.size, (hf.block k (ho k hk).1 (hO k hk)).trans (ho k hk).2⟩
    refine aw w f h _ _ _ v d y (fun b wx => Fr Q w wx ∧ (b = true ∧ ok v = true ∧ d < F v ∧ (∃ x', R wx (updI F v d) x' ∧ XR F x v d y x') ∨ b = false ∧ ¬ (ok v = true ∧ d < F v) ∧ R wx F x)) _ s.hd (fu.call r hv hd0 hd1) ?_ ?_
    · rintro w2 ⟨hf, hor⟩
      have s2 := s.fr hf q1 q2 q3 (fun k hk => (hd k hk).1)
      refine ⟨s2.hd, (Hp.Lower_any s2.hp v d).mono ?_⟩
      rintro e w3 ⟨rfl, D', hp, hd', hf3⟩
      rcases hor with ⟨_, ho', hlt, x', r2, xr⟩ | ⟨h', _⟩
      · rw [low_upd hv hk hlt] at hp
        have hb2 := hbw.trans (hf.below hbw.size hQ)
        refine ⟨⟨_, _, rfl⟩, Or.inl ⟨ho', hlt, x', ⟨D', s2.heap hp hd' hf3, fu.same r2 (fun k hk => hf3.block k (fu.lt r2 hk) (fun e => (hd k e).1 hk)), fun k hk => ?_, hb2.trans (hf3.below hb2.size (fun k hk => (hd k hk).2.2)), fun k hk => ?_⟩, xr⟩, fun k h1 h2 => ?_⟩
        · rcases hd' k hk with e | e
          · exact hd k e
          · exact ⟨fun e' => by have := fu.lt r2 e'; omega, fun e' => by have := (ho2 w2 hf k e').1; omega, by have := hb2.size; omega⟩
        · exact ⟨Nat.lt_of_lt_of_le (ho2 w2 hf k hk).1 hf3.size, (hf3.block k (ho2 w2 hf k hk).1 (fun e => (hd k e).2.1 hk)).trans (ho2 w2 hf k hk).2⟩
        · have := hf.size
          exact (hf3.block k (by omega) (fun e => by have := hDlt k e; omega)).trans (hf.block k h2 (fun e => by have := hQlt k e; omega))
      · cases h'
    · rintro w2 ⟨hf, hor⟩
      rcases hor with ⟨h', _⟩ | ⟨_, hno, r2⟩
      · cases h'
      · exact ⟨Or.inr ⟨hno, D, s.fr hf q1 q2 q3 (fun k hk => (hd k hk).1), r2, hd, hbw.trans (hf.below hbw.size hQ), ho2 w2 hf⟩, fun k h1 h2 => hf.block k h2 (fun e => by have := hQlt k e; omega)⟩
/-- The search begins. -/
theorem start_anyO {w0 w : World} {O : Nat → Prop} {n : Nat} {a : Option Addr} {cap : Nat} {l : List A} {s fid : Nat} {cs : Array Value} {ok : Nat → Bool} {X : Type} {XR : (Nat → Int) → X → Nat → Int → Int → X → Prop} {R : World → (Nat → Int) → X → Prop} {Q : Nat → Prop} {x0 : X}
    (aw : AWalk fid cs) (fu : Fun n fid cs ok XR R Q) (g : RG n l) (hr : Arcs w0 a l) (hb : Below w0.heap.size w0 w) (hs : s < n) (hR : R w (fun _ => Inf) x0) (hQ : ∀ k, Q k → w0.heap.size ≤ k) (hO : ∀ k, O k → k < w.heap.size ∧ ¬ Q k) :
    Calls Try.prog 17 #[.agg #[.int .i64 n, .slice a l.length cap], .int .i64 s, .func (.func fid) #[] cs] w fun e w' => ∃ f b1 b2 h, e = .returned (.pointer (some ⟨f, 0, none⟩)) ∧ (w.heap.size ≤ f ∧ w.heap.size ≤ b1 ∧ w.heap.size ≤ b2) ∧
      ∃ F T x, SGO w0 w O f a cap l n b1 b2 h (.func (.func fid) #[] cs) R Q w' F T x ∧ Inv l ok s F T 0 (fun _ => False) ∧ (ok s = true ∧ F = updI (fun _ => Inf) s 0 ∧ T = upd (fun _ => none) s (some 0) ∧ XR (fun _ => Inf) x0 s 0 (-1) x ∨ ok s = false ∧ F = (fun _ => Inf) ∧ T = (fun _ => none) ∧ x = x0) := by
  refine begin_any n a l cap s fid cs w g (hr.on hb) (fun f b1 b2 h w' => (w.heap.size ≤ f ∧ w.heap.size ≤ b1 ∧ w.heap.size ≤ b2) ∧
      ∃ F T x, SGO w0 w O f a cap l n b1 b2 h (.func (.func fid) #[] cs) R Q w' F T x ∧ Inv l ok s F T 0 (fun _ => False) ∧ (ok s = true ∧ F = updI (fun _ => Inf) s 0 ∧ T = upd (fun _ => none) s (some 0) ∧ XR (fun _ => Inf) x0 s 0 (-1) x ∨ ok s = false ∧ F = (fun _ => Inf) ∧ T = (fun _ => none) ∧ x = x0)) ?_
  intro f b1 b2 h D w1 sr l1 l2 l3 _ _ _ hD hb1
  have hQlt : ∀ k, Q k → k < w.heap.size := fun k hk => fu.lt hR hk
  have nq : ∀ k, w.heap.size ≤ k → ¬ Q k := fun k hk e => by have := hQlt k e; omega
  have sy := sys_ofO (wO := w) (h := h) (cap := cap) aw fu hr (nq f l1) (nq b1 l2) (nq b2 l3) hQ (fun k hk => (hO k hk).2)
  have hbw := hb.trans (hb1.mono hb.size)
  have sg : SGO w0 w O f a cap l n b1 b2 h (.func (.func fid) #[] cs) R Q w1 (fun _ => Inf) (fun _ => none) x0 :=
    ⟨D, sr, fu.same hR (fun k hk => hb1.block k (hQlt k hk)), fun k hk => ⟨nq k (hD k hk), fun e => by have := (hO k e).1; have := hD k hk; omega, Nat.le_trans hb.size (hD k hk)⟩, hbw, fun k hk => ⟨Nat.lt_of_lt_of_le (hO k hk).1 hb1.size, hb1.block k (hO k hk).1⟩⟩
  refine (sy.arr (v := s) (d := 0) (y := -1) sg (Below.refl _ _) hs (Int.le_refl _) (by unfold Inf; omega) (fun k e => by cases e)).mono ?_
  rintro e w2 ⟨rfl, hor, _⟩
  refine ⟨rfl, ⟨l1, l2, l3⟩, ?_⟩
  rcases hor with ⟨ho, _, x', sg', xr⟩ | ⟨hno, sg'⟩
  · exact ⟨_, _, x', sg', Inv.init0 l ok s _ ho, Or.inl ⟨ho, rfl, rfl, xr⟩⟩
  · have ho : ok s = false := by
      cases e : ok s with
      | false => rfl
      | true => exact absurd ⟨e, by unfold Inf; omega⟩ hno
    exact ⟨_, _, x0, sg', Inv.init l ok s _ ho, Or.inr ⟨ho, rfl, rfl, rfl⟩⟩
end Go.Proofs.Ytomlmphdnoempab
