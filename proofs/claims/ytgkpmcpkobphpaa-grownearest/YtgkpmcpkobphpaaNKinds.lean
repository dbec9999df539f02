/-
  A search whose own function keeps tables: what one arrival changes.
-/
import Derived.Test.YtgkpmcpkobphpaaNBegin
namespace Go.Proofs.Ytgkpmcpkobphpaa.N5
open Go.RowKit
open Hp (HR HRto Fr upd upd_self upd_ne TopIs)
/-- (*search).arrive with the function fid: what it comes to. -/
def AWalk (fid : Nat) (cs : Array Value) : Prop := ∀ (w : World) (f h : Nat) (x0 x1 x2 : Value) (v : Nat) (d y : Int) (P : Bool → World → Prop) (R : World → Prop),
  w.heap[f]? = some (.cells #[x0, x1, x2, .pointer (some ⟨h, 0, none⟩), .func (.func fid) #[] cs] 96 (0, 0)) →
  Calls Try.prog fid (#[.int .i64 v, .int .u64 d, .int .i64 y] ++ cs) w (fun e w1 => ∃ b, e = .returned (.bool b) ∧ P b w1) →
  (∀ w1, P true w1 → w1.heap[f]? = some (.cells #[x0, x1, x2, .pointer (some ⟨h, 0, none⟩), .func (.func fid) #[] cs] 96 (0, 0)) ∧ Calls Try.prog 71 #[.pointer (some ⟨h, 0, none⟩), .int .i64 v, .int .u64 d] w1 (fun e w2 => (∃ u1 u2, e = .returned (.tuple #[.bool u1, .int .i64 u2])) ∧ R w2)) →
  (∀ w1, P false w1 → R w1) →
  Calls Try.prog 61 #[.pointer (some ⟨f, 0, none⟩), .int .i64 v, .int .u64 d, .int .i64 y] w fun e w' => e = .returned (.tuple #[]) ∧ R w'
set_option maxRecDepth 100000 in
set_option maxHeartbeats 400000 in
theorem awalk58 (c0 : Value) : AWalk 62 #[c0] := by
  intro w f h x0 x1 x2 v d y P R hd hcl hlow hno
  have HCL := Lib.hid hcl
  have HLOW := Lib.hid hlow
  have HNO := Lib.hid hno
  obtain ⟨c0, c1, c2, c3, c4⟩ := five_cells hd
  clear hcl hlow hno hd
  go_enter Try.func61, Try.ntmps61
  go_wp2_with fail
  refine HCL.out.mono ?_
  rintro e w1 ⟨b, rfl, hP⟩
  cases b with
  | true =>
    obtain ⟨hd1, hl⟩ := HLOW.out w1 hP
    have HL := Lib.hid hl
    clear c0 c1 c2 c3 c4 hl
    obtain ⟨c0, c1, c2, c3, c4⟩ := five_cells hd1
    go_wp2_with fail
    refine HL.out.mono ?_
    rintro e w2 ⟨⟨u1, u2, rfl⟩, hR⟩
    go_wp2_with fail
    go_end0
    exact ⟨rfl, hR⟩
  | false =>
    go_wp2_with fail
    go_end0
    exact ⟨rfl, HNO.out w1 hP⟩
/-- What stands in memory: the search, and the tables R of its function in the blocks Q. -/
def SG (w0 : World) (f : Nat) (a : Option Addr) (cap : Nat) (l : List A) (n b1 b2 h : Nat) (fn : Value) {X : Type} (R : World → (Nat → Int) → X → Prop) (Q : Nat → Prop) (w : World) (F : Nat → Int) (T : Nat → Option Int) (x : X) : Prop :=
  ∃ D, Sr w f a cap l n b1 b2 h fn T D ∧ R w F x ∧ (∀ k, D k → ¬ Q k ∧ w0.heap.size ≤ k) ∧ Below w0.heap.size w0 w
/-- What is asked of the function. -/
structure Fun (n fid : Nat) (cs : Array Value) (ok : Nat → Bool) {X : Type} (XR : (Nat → Int) → X → Nat → Int → Int → X → Prop) (R : World → (Nat → Int) → X → Prop) (Q : Nat → Prop) : Prop where
  lt : ∀ {w F x k}, R w F x → Q k → k < w.heap.size
  same : ∀ {w w' F x}, R w F x → (∀ k, Q k → w'.heap[k]? = w.heap[k]?) → R w' F x
  call : ∀ {w F x} {v : Nat} {d y : Int}, R w F x → v < n → 0 ≤ d → d ≤ Inf → Calls Try.prog fid (#[.int .i64 v, .int .u64 d, .int .i64 y] ++ cs) w fun e w1 => ∃ b, e = .returned (.bool b) ∧ Fr Q w w1 ∧
    (b = true ∧ ok v = true ∧ d < F v ∧ (∃ x', R w1 (updI F v d) x' ∧ XR F x v d y x') ∨ b = false ∧ ¬ (ok v = true ∧ d < F v) ∧ R w1 F x)
theorem Tb.fr {w w' : World} {b n : Nat} {ty : TypeId} {K : IntKind} {F : Nat → Int} {Q : Nat → Prop} (h : Tb w b n ty K F) (f : Fr Q w w') (hb : ¬ Q b) : Tb w' b n ty K F := h.same (f.block b h.lt hb)
theorem Sr.fr {w w' : World} {f : Nat} {a : Option Addr} {cap : Nat} {l : List A} {n b1 b2 h : Nat} {fn : Value} {T : Nat → Option Int} {D Q : Nat → Prop} (s : Sr w f a cap l n b1 b2 h fn T D) (hf : Fr Q w w') (h1 : ¬ Q f) (h2 : ¬ Q b1) (h3 : ¬ Q b2) (hd : ∀ k, D k → ¬ Q k) : Sr w' f a cap l n b1 b2 h fn T D :=
  ⟨(hf.block f (lt_of_block s.hd) h1).trans s.hd, s.t1.fr hf h2, s.t2.fr hf h3, s.hp.fr hf hd, s.sep⟩
theorem Sr.on {w w' : World} {f : Nat} {a : Option Addr} {cap : Nat} {l : List A} {n b1 b2 h : Nat} {fn : Value} {T : Nat → Option Int} {D : Nat → Prop} (s : Sr w f a cap l n b1 b2 h fn T D) (hb : Below w.heap.size w w') : Sr w' f a cap l n b1 b2 h fn T D :=
  ⟨(hb.block f (lt_of_block s.hd)).trans s.hd, s.t1.same (hb.block _ s.t1.lt), s.t2.same (hb.block _ s.t2.lt), s.hp.on hb, s.sep⟩
/-- A heap that has been worked on. -/
theorem Sr.heap {w w' : World} {f : Nat} {a : Option Addr} {cap : Nat} {l : List A} {n b1 b2 h : Nat} {fn : Value} {T T' : Nat → Option Int} {D D' : Nat → Prop} (s : Sr w f a cap l n b1 b2 h fn T D) (hp : HR w' h n T' D') (hd : ∀ k, D' k → D k ∨ w.heap.size ≤ k) (hf : Fr D w w') : Sr w' f a cap l n b1 b2 h fn T' D' := by
  have e1 := lt_of_block s.hd
  have e2 := s.t1.lt
  have e3 := s.t2.lt
  refine ⟨(hf.block f e1 (fun e => (s.sep f e).1 rfl)).trans s.hd, s.t1.fr hf (fun e => (s.sep b1 e).2.1 rfl), s.t2.fr hf (fun e => (s.sep b2 e).2.2 rfl), hp, fun k hk => ?_⟩
  rcases hd k hk with h' | h'
  · exact s.sep k h'
  · exact ⟨by omega, by omega, by omega⟩
theorem low_upd {n : Nat} {T : Nat → Option Int} {v : Nat} {d fv : Int} (hv : v < n) (hk : ∀ k, T v = some k → k = fv) (hd : d < fv) : Hp.lowTT n T v d = upd T v (some d) := by
  have h1 : Hp.okI n (v : Int) = true := by simp [Hp.okI]; omega
  unfold Hp.lowTT Hp.lowT
  rw [if_pos h1, Int.toNat_natCast, if_pos]
  unfold Hp.low
  cases e : T v with
  | none => rfl
  | some k => have := hk k e; simp; omega
theorem sys_of {w0 : World} {f n : Nat} {a : Option Addr} {cap : Nat} {l : List A} {b1 b2 h fid : Nat} {cs : Array Value} {ok : Nat → Bool} {X : Type} {XR : (Nat → Int) → X → Nat → Int → Int → X → Prop} {R : World → (Nat → Int) → X → Prop} {Q : Nat → Prop}
    (aw : AWalk fid cs) (fu : Fun n fid cs ok XR R Q) (hr : Arcs w0 a l) (q1 : ¬ Q f) (q2 : ¬ Q b1) (q3 : ¬ Q b2) (hQ : ∀ k, Q k → w0.heap.size ≤ k) : Sys f n a cap l b1 b2 h (.func (.func fid) #[] cs) ok XR (SG w0 f a cap l n b1 b2 h (.func (.func fid) #[] cs) R Q) := by
  have hon : ∀ {w w' F T x}, SG w0 f a cap l n b1 b2 h (.func (.func fid) #[] cs) R Q w F T x → Below w.heap.size w w' → SG w0 f a cap l n b1 b2 h (.func (.func fid) #[] cs) R Q w' F T x := by
    rintro w w' F T x ⟨D, s, r, hd, hb⟩ hb'
    exact ⟨D, s.on hb', fu.same r (fun k hk => hb'.block k (fu.lt r hk)), hd, hb.trans (hb'.mono hb.size)⟩
  refine ⟨fun ⟨D, s, _⟩ => s.hd, fun ⟨D, s, _⟩ => s.t1, fun ⟨D, s, _⟩ => s.t2, fun ⟨D, _, _, _, hb⟩ => hr.on hb, ?_, hon, ?_⟩
  · rintro w F T x ⟨D, s, r, hd, hb⟩
    refine ⟨D, s.hp, fun w' T' ⟨D', hp, hd', hf⟩ => ⟨D', s.heap hp hd' hf, fu.same r (fun k hk => hf.block k (fu.lt r hk) (fun e => (hd k e).1 hk)), fun k hk => ?_, ?_⟩⟩
    · rcases hd' k hk with e | e
      · exact hd k e
      · exact ⟨fun e' => by have := fu.lt r e'; omega, by have := hb.size; omega⟩
    · exact hb.trans (hf.below hb.size (fun k hk => (hd k hk).2))
  · intro w w1 F T x v d y hs hb1 hv hd0 hd1 hk
    obtain ⟨D, s1, r1, hd, hb⟩ := hs
    have hQlt : ∀ k, Q k → k < w1.heap.size := fun k hk => fu.lt r1 hk
    have hDlt : ∀ k, D k → k < w1.heap.size := s1.hp.lt
    have s := s1.on hb1
    have r := fu.same r1 (fun k hk => hb1.block k (hQlt k hk))
    have hbw := hb.trans (hb1.mono hb.size)
    refine aw w f h _ _ _ v d y (fun b wx => Fr Q w wx ∧ (b = true ∧ ok v = true ∧ d < F v ∧ (∃ x', R wx (updI F v d) x' ∧ XR F x v d y x') ∨ b = false ∧ ¬ (ok v = true ∧ d < F v) ∧ R wx F x)) _ s.hd (fu.call r hv hd0 hd1) ?_ ?_
    · rintro w2 ⟨hf, hor⟩
      have s2 := s.fr hf q1 q2 q3 (fun k hk => (hd k hk).1)
      refine ⟨s2.hd, (Hp.Lower_any s2.hp v d).mono ?_⟩
      rintro e w3 ⟨rfl, D', hp, hd', hf3⟩
      rcases hor with ⟨_, ho, hlt, x', r2, xr⟩ | ⟨h', _⟩
      · rw [low_upd hv hk hlt] at hp
        have hb2 := hbw.trans (hf.below hbw.size hQ)
        refine ⟨⟨_, _, rfl⟩, Or.inl ⟨ho, hlt, x', ⟨D', s2.heap hp hd' hf3, fu.same r2 (fun k hk => hf3.block k (fu.lt r2 hk) (fun e => (hd k e).1 hk)), fun k hk => ?_, hb2.trans (hf3.below hb2.size (fun k hk => (hd k hk).2))⟩, xr⟩, fun k h1 h2 => ?_⟩
        · rcases hd' k hk with e | e
          · exact hd k e
          · exact ⟨fun e' => by have := fu.lt r2 e'; omega, by have := hb2.size; omega⟩
        · have := hf.size
          exact (hf3.block k (by omega) (fun e => by have := hDlt k e; omega)).trans (hf.block k h2 (fun e => by have := hQlt k e; omega))
      · cases h'
    · rintro w2 ⟨hf, hor⟩
      rcases hor with ⟨h', _⟩ | ⟨_, hno, r2⟩
      · cases h'
      · exact ⟨Or.inr ⟨hno, D, s.fr hf q1 q2 q3 (fun k hk => (hd k hk).1), r2, hd, hbw.trans (hf.below hbw.size hQ)⟩, fun k h1 h2 => hf.block k h2 (fun e => by have := hQlt k e; omega)⟩
end Go.Proofs.Ytgkpmcpkobphpaa.N5
