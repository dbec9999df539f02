import Derived.Test.YtaafkpojjdjphaaGreatQNF
open Go.Lib (hid)
set_option maxRecDepth 100000
namespace Go.Proofs.YtaafkpojjdjphaaGreat.N5
open Go.RowKit
open Hp (HR HRto Fr upd upd_self upd_ne TopIs)
set_option maxHeartbeats 1600000 in
theorem begin_any (n : Nat) (a : Option Addr) (l : List A) (cap : Nat) (s fid : Nat) (cs : Array Value) (w : World) (g : RG n l) (hr : Arcs w a l) (Post : Nat → Nat → Nat → Nat → World → Prop)
  (next : ∀ f b1 b2 h D w1, Sr w1 f a cap l n b1 b2 h (.func (.func fid) #[] cs) (fun _ => none) D → w.heap.size ≤ f → w.heap.size ≤ b1 → w.heap.size ≤ b2 → f ≠ b1 → f ≠ b2 → b1 ≠ b2 → (∀ k, D k → w.heap.size ≤ k) → Below w.heap.size w w1 →
    Calls Tryz.prog 185 #[.pointer (some ⟨f, 0, none⟩), .int .i64 s, .int .u64 0, .int .i64 (-1)] w1 fun e w' => e = .returned (.tuple #[]) ∧ Post f b1 b2 h w') :
  Calls Tryz.prog 129 #[.agg #[.int .i64 n, .slice a l.length cap], .int .i64 s, .func (.func fid) #[] cs] w fun e w' => ∃ f b1 b2 h, e = .returned (.pointer (some ⟨f, 0, none⟩)) ∧ Post f b1 b2 h w' := by
 have hnb := g.nb
 have HNEXT := hid next
 have hb0 : Below w.heap.size w (w.alloc (.cells #[.int .i64 n, .slice a l.length cap] 24)) := (Below.refl _ _).alloc (Nat.le_refl _) _
 have hg := heap_top w (.cells #[.int .i64 n, .slice a l.length cap] 24)
 have HNEW := hid (Hp.New_any n (by omega) (w.alloc (.cells #[.int .i64 n, .slice a l.length cap] 24)))
 have HAR := hid hr
 have HG := hid g
 clear next hr g
 go_enter Tryz.func129, Tryz.ntmps129
 go_wp2_with fail
 refine HNEW.out.mono ?_
 rintro e w1 ⟨h, D, rfl, hp1, hD1, hb1⟩
 have hg1 := (hb1.block _ (lt_of_block hg)).trans hg
 have b1w : Below w.heap.size w w1 := hb0.trans (hb1.mono hb0.size)
 have s1 := lt_of_block hg1
 have hD : ∀ k, D k → w.heap.size ≤ k := fun k hk => Nat.le_trans hb0.size (hD1 k hk)
 have HD := hid hD
 have HP1 := hid hp1
 have HB1 := hid b1w
 obtain ⟨⟨g0, g1⟩, gf0, gf1⟩ := two_cells hg1
 have G0 := hid g0
 have G1 := hid g1
 clear hD hD1 hg hb0 hb1 hp1 HNEW b1w
 go_wp2_with fail
 have HCH := hid (fun (w' : World) (hb : Below w1.heap.size w1 w') => chained_any n a l cap w' HG.out (HAR.out.on (HB1.out.trans (hb.mono HB1.out.size))))
 go_region_held3 (fun w' => w'.cell? ⟨w.heap.size, 0, none⟩ = some (.int .i64 n) ∧ w'.cell? ⟨w.heap.size, 1, none⟩ = some (.slice a l.length cap)) (go_keep) ((go_at_call 184; refine (HCH.out _ (by first | exact Below.refl _ _ | exact (Below.refl _ _).drew | exact below_drewN _ _ _)).mono ?_; rintro e w2 ⟨b1, b2, rfl, hn, hl1, hl2, ht1, ht2, hb2⟩; have y0 : w2.cell? ⟨w.heap.size, 0, none⟩ = some (.int .i64 n) := (hb2.cell (p := ⟨w.heap.size, 0, none⟩) s1).trans G0.out; have y1 : w2.cell? ⟨w.heap.size, 1, none⟩ = some (.slice a l.length cap) := (hb2.cell (p := ⟨w.heap.size, 1, none⟩) s1).trans G1.out; have BB : Below w1.heap.size w1 w2 := Below.trans (show Below w1.heap.size w1 _ from by first | exact Below.refl _ _ | exact (Below.refl _ _).drew | exact below_drewN _ _ _) hb2; have k1 : w1.heap.size ≤ b1 := hl1; have k2 : w1.heap.size ≤ b2 := hl2))
 have q1 := ht1.lt
 have q2 := ht2.lt
 have hb2w := HB1.out.trans (BB.mono HB1.out.size)
 have sw := HB1.out.size
 have HPA := hid (HNEXT.out w2.heap.size b1 b2 h D (w2.alloc (.cells #[.slice a l.length cap, .slice (some ⟨b1, 0, none⟩) n n, .slice (some ⟨b2, 0, none⟩) l.length l.length, .pointer (some ⟨h, 0, none⟩), .func (.func fid) #[] cs] 247))
  ⟨heap_top w2 _, ht1.alloc _, ht2.alloc _, (HP1.out.on BB).on ((Below.refl _ _).alloc (Nat.le_refl _) _), fun k hk => by have := HP1.out.lt k hk; omega⟩ (by omega) (by omega) (by omega) (by omega) (by omega) hn HD.out (hb2w.alloc hb2w.size _))
 clear y0 y1 g0 g1 gf0 gf1 hg1 ht1 ht2 hn hl1 hl2 q1 q2 k1 k2
 go_wp2_with fail
 refine HPA.out.mono ?_
 rintro e w3 ⟨rfl, hpost⟩
 go_wp2_with fail
 go_ret
 exact ⟨_, b1, b2, h, rfl, hpost⟩
def AWalk (fid : Nat) (cs : Array Value) : Prop := ∀ (w : World) (f h : Nat) (x0 x1 x2 : Value) (v : Nat) (d y : Int) (P : Bool → World → Prop) (R : World → Prop),
 w.heap[f]? = some (.cells #[x0, x1, x2, .pointer (some ⟨h, 0, none⟩), .func (.func fid) #[] cs] 247 (0, 0)) →
 Calls Tryz.prog fid (#[.int .i64 v, .int .u64 d, .int .i64 y] ++ cs) w (fun e w1 => ∃ b, e = .returned (.bool b) ∧ P b w1) →
 (∀ w1, P true w1 → w1.heap[f]? = some (.cells #[x0, x1, x2, .pointer (some ⟨h, 0, none⟩), .func (.func fid) #[] cs] 247 (0, 0)) ∧ Calls Tryz.prog 215 #[.pointer (some ⟨h, 0, none⟩), .int .i64 v, .int .u64 d] w1 (fun e w2 => (∃ u1 u2, e = .returned (.tuple #[.bool u1, .int .i64 u2])) ∧ R w2)) →
 (∀ w1, P false w1 → R w1) →
 Calls Tryz.prog 185 #[.pointer (some ⟨f, 0, none⟩), .int .i64 v, .int .u64 d, .int .i64 y] w fun e w' => e = .returned (.tuple #[]) ∧ R w'
set_option maxHeartbeats 400000 in
theorem awalk58 (c0 : Value) : AWalk 182 #[c0] := by
 intro w f h x0 x1 x2 v d y P R hd hcl hlow hno
 have HCL := hid hcl
 have HLOW := hid hlow
 have HNO := hid hno
 obtain ⟨c0, c1, c2, c3, c4⟩ := five_cells hd
 clear hcl hlow hno hd
 go_enter Tryz.func185, Tryz.ntmps185
 go_wp2_with fail
 refine HCL.out.mono ?_
 rintro e w1 ⟨b, rfl, hP⟩
 cases b with
 | true =>
   obtain ⟨hd1, hl⟩ := HLOW.out w1 hP
   have HL := hid hl
   clear c0 c1 c2 c3 c4 hl
   obtain ⟨c0, c1, c2, c3, c4⟩ := five_cells hd1
   go_wp2_with fail
   refine HL.out.mono ?_
   rintro e w2 ⟨⟨u1, u2, rfl⟩, hR⟩
   go_wp2_with fail
   go_end0
   exact ⟨rfl, hR⟩
 | false =>
   go_wp2_with fail
   go_end0
   exact ⟨rfl, HNO.out w1 hP⟩
def SG (w0 : World) (f : Nat) (a : Option Addr) (cap : Nat) (l : List A) (n b1 b2 h : Nat) (fn : Value) {X : Type} (R : World → (Nat → Int) → X → Prop) (Q : Nat → Prop) (w : World) (F : Nat → Int) (T : Nat → Option Int) (x : X) : Prop :=
 ∃ D, Sr w f a cap l n b1 b2 h fn T D ∧ R w F x ∧ (∀ k, D k → ¬ Q k ∧ w0.heap.size ≤ k) ∧ Below w0.heap.size w0 w
structure Fun (n fid : Nat) (cs : Array Value) (ok : Nat → Bool) {X : Type} (XR : (Nat → Int) → X → Nat → Int → Int → X → Prop) (R : World → (Nat → Int) → X → Prop) (Q : Nat → Prop) : Prop where
 lt : ∀ {w F x k}, R w F x → Q k → k < w.heap.size
 same : ∀ {w w' F x}, R w F x → (∀ k, Q k → w'.heap[k]? = w.heap[k]?) → R w' F x
 call : ∀ {w F x} {v : Nat} {d y : Int}, R w F x → v < n → 0 ≤ d → d ≤ Inf → Calls Tryz.prog fid (#[.int .i64 v, .int .u64 d, .int .i64 y] ++ cs) w fun e w1 => ∃ b, e = .returned (.bool b) ∧ Fr Q w w1 ∧
  (b = true ∧ ok v = true ∧ d < F v ∧ (∃ x', R w1 (updI F v d) x' ∧ XR F x v d y x') ∨ b = false ∧ ¬ (ok v = true ∧ d < F v) ∧ R w1 F x)
theorem Tb.fr {w w' : World} {b n : Nat} {ty : TypeId} {K : IntKind} {F : Nat → Int} {Q : Nat → Prop} (h : Tb w b n ty K F) (f : Fr Q w w') (hb : ¬ Q b) : Tb w' b n ty K F := h.same (f.block b h.lt hb)
theorem Sr.fr {w w' : World} {f : Nat} {a : Option Addr} {cap : Nat} {l : List A} {n b1 b2 h : Nat} {fn : Value} {T : Nat → Option Int} {D Q : Nat → Prop} (s : Sr w f a cap l n b1 b2 h fn T D) (hf : Fr Q w w') (h1 : ¬ Q f) (h2 : ¬ Q b1) (h3 : ¬ Q b2) (hd : ∀ k, D k → ¬ Q k) : Sr w' f a cap l n b1 b2 h fn T D :=
 ⟨(hf.block f (lt_of_block s.hd) h1).trans s.hd, s.t1.fr hf h2, s.t2.fr hf h3, s.hp.fr hf hd, s.sep⟩
theorem Sr.on {w w' : World} {f : Nat} {a : Option Addr} {cap : Nat} {l : List A} {n b1 b2 h : Nat} {fn : Value} {T : Nat → Option Int} {D : Nat → Prop} (s : Sr w f a cap l n b1 b2 h fn T D) (hb : Below w.heap.size w w') : Sr w' f a cap l n b1 b2 h fn T D :=
 ⟨(hb.block f (lt_of_block s.hd)).trans s.hd, s.t1.same (hb.block _ s.t1.lt), s.t2.same (hb.block _ s.t2.lt), s.hp.on hb, s.sep⟩
theorem Sr.heap {w w' : World} {f : Nat} {a : Option Addr} {cap : Nat} {l : List A} {n b1 b2 h : Nat} {fn : Value} {T T' : Nat → Option Int} {D D' : Nat → Prop} (s : Sr w f a cap l n b1 b2 h fn T D) (hp : HR w' h n T' D') (hd : ∀ k, D' k → D k ∨ w.heap.size ≤ k) (hf : Fr D w w') : Sr w' f a cap l n b1 b2 h fn T' D' := by
 have e1 := lt_of_block s.hd
 have e2 := s.t1.lt
 have e3 := s.t2.lt
 refine ⟨(hf.block f e1 (fun e => (s.sep f e).1 rfl)).trans s.hd, s.t1.fr hf (fun e => (s.sep b1 e).2.1 rfl), s.t2.fr hf (fun e => (s.sep b2 e).2.2 rfl), hp, fun k hk => ?_⟩
 rcases hd k hk with h' | h'
 ·exact s.sep k h'
 ·exact ⟨by omega, by omega, by omega⟩
theorem low_upd {n : Nat} {T : Nat → Option Int} {v : Nat} {d fv : Int} (hv : v < n) (hk : ∀ k, T v = some k → k = fv) (hd : d < fv) : Hp.lowTT n T v d = upd T v (some d) := by
 have h1 : Hp.okI n (v : Int) = true := by simp [Hp.okI]; omega
 unfold Hp.lowTT Hp.lowT
 rw [if_pos h1, Int.toNat_natCast, if_pos]
 unfold Hp.low
 cases e : T v with
 | none => rfl
 | some k => have := hk k e; simp; omega
theorem sys_of {w0 : World} {f n : Nat} {a : Option Addr} {cap : Nat} {l : List A} {b1 b2 h fid : Nat} {cs : Array Value} {ok : Nat → Bool} {X : Type} {XR : (Nat → Int) → X → Nat → Int → Int → X → Prop} {R : World → (Nat → Int) → X → Prop} {Q : Nat → Prop}
  (aw : AWalk fid cs) (fu : Fun n fid cs ok XR R Q) (hr : Arcs w0 a l) (q1 : ¬ Q f) (q2 : ¬ Q b1) (q3 : ¬ Q b2) (hQ : ∀ k, Q k → w0.heap.size ≤ k) : Sys f n a cap l b1 b2 h (.func (.func fid) #[] cs) ok XR (SG w0 f a cap l n b1 b2 h (.func (.func fid) #[] cs) R Q) := by
 have hon : ∀ {w w' F T x}, SG w0 f a cap l n b1 b2 h (.func (.func fid) #[] cs) R Q w F T x → Below w.heap.size w w' → SG w0 f a cap l n b1 b2 h (.func (.func fid) #[] cs) R Q w' F T x := by
  rintro w w' F T x ⟨D, s, r, hd, hb⟩ hb'
  exact ⟨D, s.on hb', fu.same r (fun k hk => hb'.block k (fu.lt r hk)), hd, hb.trans (hb'.mono hb.size)⟩
 refine ⟨fun ⟨D, s, _⟩ => s.hd, fun ⟨D, s, _⟩ => s.t1, fun ⟨D, s, _⟩ => s.t2, fun ⟨D, _, _, _, hb⟩ => hr.on hb, ?_, hon, ?_⟩
 ·rintro w F T x ⟨D, s, r, hd, hb⟩
  refine ⟨D, s.hp, fun w' T' ⟨D', hp, hd', hf⟩ => ⟨D', s.heap hp hd' hf, fu.same r (fun k hk => hf.block k (fu.lt r hk) (fun e => (hd k e).1 hk)), fun k hk => ?_, ?_⟩⟩
  ·rcases hd' k hk with e | e
   ·exact hd k e
   ·exact ⟨fun e' => by have := fu.lt r e'; omega, by have := hb.size; omega⟩
  ·exact hb.trans (hf.below hb.size (fun k hk => (hd k hk).2))
 ·intro w w1 F T x v d y hs hb1 hv hd0 hd1 hk
  obtain ⟨D, s1, r1, hd, hb⟩ := hs
  have hQlt : ∀ k, Q k → k < w1.heap.size := fun k hk => fu.lt r1 hk
  have hDlt : ∀ k, D k → k < w1.heap.size := s1.hp.lt
  have s := s1.on hb1
  have r := fu.same r1 (fun k hk => hb1.block k (hQlt k hk))
  have hbw := hb.trans (hb1.mono hb.size)
  refine aw w f h _ _ _ v d y (fun b wx => Fr Q w wx ∧ (b = true ∧ ok v = true ∧ d < F v ∧ (∃ x', R wx (updI F v d) x' ∧ XR F x v d y x') ∨ b = false ∧ ¬ (ok v = true ∧ d < F v) ∧ R wx F x)) _ s.hd (fu.call r hv hd0 hd1) ?_ ?_
  ·rintro w2 ⟨hf, hor⟩
   have s2 := s.fr hf q1 q2 q3 (fun k hk => (hd k hk).1)
   refine ⟨s2.hd, (Hp.Lower_any s2.hp v d).mono ?_⟩
   rintro e w3 ⟨rfl, D', hp, hd', hf3⟩
   rcases hor with ⟨_, ho, hlt, x', r2, xr⟩ | ⟨h', _⟩
   ·rw [low_upd hv hk hlt] at hp
    have hb2 := hbw.trans (hf.below hbw.size hQ)
    refine ⟨⟨_, _, rfl⟩, Or.inl ⟨ho, hlt, x', ⟨D', s2.heap hp hd' hf3, fu.same r2 (fun k hk => hf3.block k (fu.lt r2 hk) (fun e => (hd k e).1 hk)), fun k hk => ?_, hb2.trans (hf3.below hb2.size (fun k hk => (hd k hk).2))⟩, xr⟩, fun k h1 h2 => ?_⟩
    ·rcases hd' k hk with e | e
     ·exact hd k e
     ·exact ⟨fun e' => by have := fu.lt r2 e'; omega, by have := hb2.size; omega⟩
    ·have := hf.size
     exact (hf3.block k (by omega) (fun e => by have := hDlt k e; omega)).trans (hf.block k h2 (fun e => by have := hQlt k e; omega))
   ·cases h'
  ·rintro w2 ⟨hf, hor⟩
   rcases hor with ⟨h', _⟩ | ⟨_, hno, r2⟩
   ·cases h'
   ·exact ⟨Or.inr ⟨hno, D, s.fr hf q1 q2 q3 (fun k hk => (hd k hk).1), r2, hd, hbw.trans (hf.below hbw.size hQ)⟩, fun k h1 h2 => hf.block k h2 (fun e => by have := hQlt k e; omega)⟩
def nearE (N : Int) (l : List A) (xs : List Int) : Int := if chkE N l = 0 then (if xs.all (okV N) then 0 else 5) else chkE N l
theorem all_take_succ {xs : List Int} {q : Int → Bool} {k : Nat} (h : k < xs.length) (h1 : (xs.take k).all q = true) (h2 : q (xs.getD k 0) = true) : (xs.take (k + 1)).all q = true := by
 rw [List.take_add_one, List.all_append, h1]
 simp [List.getElem?_eq_getElem h]
 simpa [List.getD, List.getElem?_eq_getElem h] using h2
theorem all_bad {xs : List Int} {q : Int → Bool} {k : Nat} (h : k < xs.length) (h2 : q (xs.getD k 0) = false) : xs.all q = false := by
 rw [List.all_eq_false]
 refine ⟨xs[k], List.getElem_mem h, ?_⟩
 simp [List.getD, List.getElem?_eq_getElem h] at h2
 simpa using h2
set_option maxHeartbeats 800000 in
theorem ncheck_any (N : Int) (a : Option Addr) (l : List A) (cap : Nat) (xa : Option Addr) (xs : List Int) (xc : Nat) (w : World) (hl : l.length ≤ 9223372036854775807) (hx : xs.length ≤ 280) (hr : Arcs w a l) (hxs : Ints w xa xs) :
  Calls Tryz.prog 123 #[.agg #[.int .i64 N, .slice a l.length cap], .slice xa xs.length xc] w fun e w' => e = .returned (.int .i64 (nearE N l xs)) ∧ Below w.heap.size w w' := by
 have hb0 : Below w.heap.size w (w.alloc (.cells #[.int .i64 N, .slice a l.length cap] 24)) := (Below.refl _ _).alloc (Nat.le_refl _) _
 have hg := heap_top w (.cells #[.int .i64 N, .slice a l.length cap] 24)
 have HCK := hid (check_any N a l cap _ hl (hr.on hb0))
 obtain ⟨T, HT⟩ := named (chkAt N l)
 rw [HT.out] at HCK
 by_cases hE : chkE N l = 0
 ·rw [hE] at HCK
  obtain ⟨E, HE⟩ := named (nearE N l xs)
  have HEQ : Hid (E = if xs.all (okV N) then 0 else 5) := by show _ = _; rw [← HE.out]; unfold nearE; rw [if_pos hE]
  rw [HE.out]
  clear hE
  obtain ⟨bx, ox, hxx⟩ := hxs.get
  go_enter Tryz.func123, Tryz.ntmps123
  go_wp2_with fail
  refine HCK.out.mono ?_
  rintro e w1 ⟨rfl, hb1⟩
  have hg1 := (hb1.block _ (lt_of_block hg)).trans hg
  have b1 : Below w.heap.size w w1 := hb0.trans (hb1.mono hb0.size)
  clear hb1 hb0 hg HCK
  obtain ⟨⟨g0, g1⟩, -⟩ := two_cells hg1
  go_wp2_with fail
  go_loopw [19] (fun i wr => ∃ k : Nat, k ≤ xs.length ∧ i = .int .i64 k ∧ Hid ((xs.take k).all (okV N) = true) ∧ wr = w1) (fun i _ => xs.length - (intOf i).toNat)
  case atStart => exact ⟨0, Nat.zero_le _, rfl, by show _ = _; simp, rfl⟩
  case round =>
   obtain ⟨k, hk, rfl, hall, rfl⟩ := hrel
   by_cases hlt : k < xs.length
   ·obtain ⟨rfl, hbl, hat⟩ := hxx (by omega)
    have c0 := (b1.cell (p := ⟨bx, ox + k, none⟩) hbl).trans (hat k hlt)
    have hlt' : (k : Int) < xs.length := by omega
    have HA := hid (fun h => all_take_succ (q := okV N) hlt hall.out h)
    have HB := hid (fun h => all_bad (q := okV N) hlt h)
    generalize xs.getD k 0 = v at *
    by_cases h1 : v < 0
    ·obtain rfl : E = 5 := by rw [HEQ.out, HB.out (by simp [okV]; omega)]; rfl
     go_wp2_with fail
     go_ret
     exact ⟨rfl, b1⟩
    ·by_cases h2 : N ≤ v
     ·obtain rfl : E = 5 := by rw [HEQ.out, HB.out (by simp [okV]; omega)]; rfl
      go_wp2_with fail
      go_ret
      exact ⟨rfl, b1⟩
     ·have HA2 := hid (HA.out (by simp [okV]; omega))
      go_wp2_with fail
      exact ⟨⟨k + 1, by omega, by go_num, HA2, trivial⟩, by simp [intOf]; omega⟩
   ·have hlt' : ¬ (k : Int) < xs.length := by omega
    obtain rfl : E = 0 := by
     have := hall.out
     rw [List.take_of_length_le (by omega)] at this
     rw [HEQ.out, this]; rfl
    go_wp2_with fail
    go_ret
    exact ⟨rfl, b1⟩
 ·have hN : nearE N l xs = chkE N l := by unfold nearE; rw [if_neg hE]
  rw [hN]
  obtain ⟨E, HE⟩ := named (chkE N l)
  rw [HE.out] at hE HCK ⊢
  have hE' : (E == 0) = false := beq_eq_false_iff_ne.2 hE
  clear hN hE
  go_enter Tryz.func123, Tryz.ntmps123
  go_wp2_with fail
  refine HCK.out.mono ?_
  rintro e w1 ⟨rfl, hb1⟩
  have b1 : Below w.heap.size w w1 := hb0.trans (hb1.mono hb0.size)
  go_wp2_with fail
  go_ret
  exact ⟨rfl, b1⟩
set_option maxHeartbeats 400000 in
theorem shorter_any (x : Addr) (n m : Nat) (w : World) :
  Calls Tryz.prog 127 #[.slice (some x) n m] w fun e w' => e = .returned (.func (.func 182) #[] #[.pointer (some ⟨w.heap.size, 0, none⟩)]) ∧ w' = w.alloc (.cells #[.slice (some x) n m] 38) := by
 go_enter Tryz.func127, Tryz.ntmps127
 go_wp2_with fail
 go_ret
 exact ⟨rfl, rfl⟩
def R1 (n c bf : Nat) (w : World) (F : Nat → Int) (_ : Unit) : Prop := w.heap[c]? = some (.cells #[.slice (some ⟨bf, 0, none⟩) n n] 38) ∧ Tb w bf n 48 .u64 F
def Q1 (c bf : Nat) (k : Nat) : Prop := k = c ∨ k = bf
theorem Fr.set1 {Q : Nat → Prop} {w : World} {p : Addr} {u : Value} (h : Q p.block) : Fr Q w (w.setCell p u) := (Hp.Fr.refl Q w).setCell p u (Or.inl h)
theorem fun1 (n c bf : Nat) (hne : c ≠ bf) : Fun n 182 #[.pointer (some ⟨c, 0, none⟩)] (fun _ => true) (X := Unit) (fun _ _ _ _ _ _ => True) (R1 n c bf) (Q1 c bf) := by
 refine ⟨?_, ?_, ?_⟩
 ·rintro w F x k ⟨h1, h2⟩ (rfl | rfl)
  ·exact lt_of_block h1
  ·exact h2.lt
 ·rintro w w' F x ⟨h1, h2⟩ hs
  exact ⟨(hs c (Or.inl rfl)).trans h1, h2.same (hs bf (Or.inr rfl))⟩
 ·rintro w F x v d y ⟨h1, h2⟩ hv hd0 hd1
  refine (short_any w c bf n v d y F hv h1 h2).mono ?_
  rintro e w1 ⟨rfl, rfl⟩
  refine ⟨_, rfl, ?_, ?_⟩
  ·split
   ·exact Fr.set1 (Or.inr rfl)
   ·exact Hp.Fr.refl _ _
  ·by_cases h : d < F v
   ·rw [if_pos h]
    exact Or.inl ⟨by simpa using h, rfl, h, (), ⟨(Below.heap_setCell _ _ _ _ hne).trans h1, h2.set v d⟩, trivial⟩
   ·rw [if_neg h]
    exact Or.inr ⟨by simpa using h, fun e => h e.2, h1, h2⟩
theorem start_any {w0 w : World} {n : Nat} {a : Option Addr} {cap : Nat} {l : List A} {s fid : Nat} {cs : Array Value} {ok : Nat → Bool} {X : Type} {XR : (Nat → Int) → X → Nat → Int → Int → X → Prop} {R : World → (Nat → Int) → X → Prop} {Q : Nat → Prop} {x0 : X}
  (aw : AWalk fid cs) (fu : Fun n fid cs ok XR R Q) (g : RG n l) (hr : Arcs w0 a l) (hb : Below w0.heap.size w0 w) (hs : s < n) (hR : R w (fun _ => Inf) x0) (hQ : ∀ k, Q k → w0.heap.size ≤ k) :
  Calls Tryz.prog 129 #[.agg #[.int .i64 n, .slice a l.length cap], .int .i64 s, .func (.func fid) #[] cs] w fun e w' => ∃ f b1 b2 h, e = .returned (.pointer (some ⟨f, 0, none⟩)) ∧ Sys f n a cap l b1 b2 h (.func (.func fid) #[] cs) ok XR (SG w0 f a cap l n b1 b2 h (.func (.func fid) #[] cs) R Q) ∧
   ∃ F T x, SG w0 f a cap l n b1 b2 h (.func (.func fid) #[] cs) R Q w' F T x ∧ Inv l ok s F T 0 (fun _ => False) ∧ (ok s = true ∧ F = updI (fun _ => Inf) s 0 ∧ T = upd (fun _ => none) s (some 0) ∧ XR (fun _ => Inf) x0 s 0 (-1) x ∨ ok s = false ∧ F = (fun _ => Inf) ∧ T = (fun _ => none) ∧ x = x0) := by
 refine begin_any n a l cap s fid cs w g (hr.on hb) (fun f b1 b2 h w' => Sys f n a cap l b1 b2 h (.func (.func fid) #[] cs) ok XR (SG w0 f a cap l n b1 b2 h (.func (.func fid) #[] cs) R Q) ∧
   ∃ F T x, SG w0 f a cap l n b1 b2 h (.func (.func fid) #[] cs) R Q w' F T x ∧ Inv l ok s F T 0 (fun _ => False) ∧ (ok s = true ∧ F = updI (fun _ => Inf) s 0 ∧ T = upd (fun _ => none) s (some 0) ∧ XR (fun _ => Inf) x0 s 0 (-1) x ∨ ok s = false ∧ F = (fun _ => Inf) ∧ T = (fun _ => none) ∧ x = x0)) ?_
 intro f b1 b2 h D w1 sr l1 l2 l3 _ _ _ hD hb1
 have hQlt : ∀ k, Q k → k < w.heap.size := fun k hk => fu.lt hR hk
 have nq : ∀ k, w.heap.size ≤ k → ¬ Q k := fun k hk e => by have := hQlt k e; omega
 have sy := sys_of (h := h) (cap := cap) aw fu hr (nq f l1) (nq b1 l2) (nq b2 l3) hQ
 have hbw := hb.trans (hb1.mono hb.size)
 have sg : SG w0 f a cap l n b1 b2 h (.func (.func fid) #[] cs) R Q w1 (fun _ => Inf) (fun _ => none) x0 :=
  ⟨D, sr, fu.same hR (fun k hk => hb1.block k (hQlt k hk)), fun k hk => ⟨nq k (hD k hk), Nat.le_trans hb.size (hD k hk)⟩, hbw⟩
 refine (sy.arr (v := s) (d := 0) (y := -1) sg (Below.refl _ _) hs (Int.le_refl _) (by unfold Inf; omega) (fun k e => by cases e)).mono ?_
 rintro e w2 ⟨rfl, hor, _⟩
 refine ⟨rfl, sy, ?_⟩
 rcases hor with ⟨ho, _, x', sg', xr⟩ | ⟨hno, sg'⟩
 ·exact ⟨_, _, x', sg', Inv.init0 l ok s _ ho, Or.inl ⟨ho, rfl, rfl, xr⟩⟩
 ·have ho : ok s = false := by
   cases e : ok s with
   | false => rfl
   | true => exact absurd ⟨e, by unfold Inf; omega⟩ hno
  exact ⟨_, _, x0, sg', Inv.init l ok s _ ho, Or.inr ⟨ho, rfl, rfl, rfl⟩⟩
theorem rg_of {N : Int} {l : List A} (h : chkE N l = 0) (hw : ∀ x ∈ l, 0 ≤ x.w ∧ x.w < 4294967296) : ∃ n : Nat, N = n ∧ RG n l := by
 obtain ⟨h1, h2, h3, h4⟩ := chk_zero h
 refine ⟨N.toNat, by omega, by omega, by omega, h3, fun x hx => ?_, hw⟩
 have := h4 x hx
 omega
theorem SG.below {w0 : World} {f : Nat} {a : Option Addr} {cap : Nat} {l : List A} {n b1 b2 h : Nat} {fn : Value} {X : Type} {R : World → (Nat → Int) → X → Prop} {Q : Nat → Prop} {w : World} {F : Nat → Int} {T : Nat → Option Int} {x : X} (h : SG w0 f a cap l n b1 b2 h fn R Q w F T x) : Below w0.heap.size w0 w := by
 obtain ⟨_, _, _, _, hb⟩ := h
 exact hb
theorem SG.tab {w0 : World} {f : Nat} {a : Option Addr} {cap : Nat} {l : List A} {n b1 b2 h : Nat} {fn : Value} {X : Type} {R : World → (Nat → Int) → X → Prop} {Q : Nat → Prop} {w : World} {F : Nat → Int} {T : Nat → Option Int} {x : X} (h : SG w0 f a cap l n b1 b2 h fn R Q w F T x) : R w F x := by
 obtain ⟨_, _, hr, _, _⟩ := h
 exact hr
theorem far_of {n K : Nat} {l : List A} {ok : Nat → Bool} {s : Nat} {F : Nat → Int} {T : Nat → Option Int} (g : RG n l) (hi : Inv l ok s F T K (fun _ => False)) (hK : K ≤ dn F T n) (ht : ∀ u, T u = none) : IsD l ok s F ∧ ∀ v, F v < Inf → F v ≤ n * 4294967296 := by
 refine ⟨hi.isD (fun x hx => (g.wt x hx).1) ht, fun v hv => ?_⟩
 have h1 := hi.bnd v hv
 have h2 := dn_le F T n
 have h3 : (K : Int) * 4294967296 ≤ n * 4294967296 := Int.mul_le_mul_of_nonneg_right (by omega) (by omega)
 omega
def FarIs (w w' : World) (bf n : Nat) (l : List A) (ok : Nat → Bool) (s : Nat) : Prop :=
 ∃ F, Tb w' bf n 48 .u64 F ∧ IsD l ok s F ∧ (∀ v, F v < Inf → F v ≤ n * 4294967296) ∧ w.heap.size ≤ bf ∧ Below w.heap.size w w'
theorem one_int (w : World) (x : Int) : Ints (w.alloc (.cells #[.int .i64 x] 3)) (some ⟨w.heap.size, 0, none⟩) [x] := by
 refine Or.inr ⟨w.heap.size, 0, rfl, by simp, fun j hj => ?_⟩
 match j, hj with
 | 0, _ => exact (one_cell (heap_top w _)).1
set_option maxHeartbeats 1600000 in
theorem from_ok (n : Nat) (a : Option Addr) (l : List A) (cap : Nat) (s : Nat) (w : World) (g : RG n l) (hs : s < n) (hE : nearE n l [(s : Int)] = 0) (hr : Arcs w a l) :
  Calls Tryz.prog 158 #[.agg #[.int .i64 n, .slice a l.length cap], .int .i64 s] w fun e w' => ∃ bf, e = .returned (.tuple #[.slice (some ⟨bf, 0, none⟩) n n, .int .i64 0]) ∧ FarIs w w' bf n l (fun _ => true) s := by
 have hnb := g.nb
 have hlb := g.lb
 have hb0 : Below w.heap.size w ((w.alloc (.cells #[.int .i64 n, .slice a l.length cap] 24)).alloc (.cells #[.int .i64 s] 3)) := ((Below.refl _ _).alloc (Nat.le_refl _) _).alloc (by simp) _
 have hg : ((w.alloc (.cells #[.int .i64 n, .slice a l.length cap] 24)).alloc (.cells #[.int .i64 s] 3)).heap[w.heap.size]? = some (.cells #[.int .i64 n, .slice a l.length cap] 24) := (Below.heap_alloc _ _ _ (by simp)).trans (heap_top w _)
 have hi := one_int (w.alloc (.cells #[.int .i64 n, .slice a l.length cap] 24)) s
 rw [World.size_alloc] at hi
 have HCK := hid (ncheck_any n a l cap _ [(s : Int)] 1 _ (by omega) (by simp) (hr.on hb0) hi)
 rw [hE] at HCK
 have HG := hid g
 have HR := hid hr
 clear g hr hE hi
 go_enter Tryz.func158, Tryz.ntmps158
 go_wp2_with fail
 refine HCK.out.mono ?_
 rintro e w1 ⟨rfl, hb1⟩
 have hg1 := (hb1.block _ (lt_of_block hg)).trans hg
 have b1 : Below w.heap.size w w1 := hb0.trans (hb1.mono hb0.size)
 have s1 := lt_of_block hg1
 clear hg hb0 hb1 HCK
 obtain ⟨⟨g0, g1⟩, -⟩ := two_cells hg1
 go_wp2_with fail
 refine (unreached_any n (by omega) w1).mono ?_
 rintro e w2 ⟨bf, rfl, htf, hbf, hb2⟩
 have G0 := hid g0
 have G1 := hid g1
 have g0' := (hb2.cell (p := ⟨w.heap.size, 0, none⟩) s1).trans g0
 have g1' := (hb2.cell (p := ⟨w.heap.size, 1, none⟩) s1).trans g1
 clear g0 g1
 have B1 := hid b1
 have HT := hid htf
 have HB2 := hid hb2
 have HSH := hid (fun w' => shorter_any ⟨bf, 0, none⟩ n n w')
 have hAR := HR.out.on b1
 have hb3 : Below w1.heap.size w1 (w2.alloc (.cells #[.slice (some ⟨bf, 0, none⟩) n n] 38)) := hb2.alloc hb2.size _
 have HST := hid (fun (w' : World) (hb : Below (w2.alloc (.cells #[.slice (some ⟨bf, 0, none⟩) n n] 38)).heap.size (w2.alloc (.cells #[.slice (some ⟨bf, 0, none⟩) n n] 38)) w') => start_any (w0 := w1) (w := w') (a := a) (cap := cap) (s := s) (x0 := ()) (awalk58 _) (fun1 n w2.heap.size bf (by have := htf.lt; omega)) HG.out hAR (hb3.trans (hb.mono hb3.size)) hs
  ⟨(hb.block _ (by simp)).trans (heap_top w2 _), (htf.alloc _).same (hb.block _ (htf.alloc _).lt)⟩ (by rintro k (rfl | rfl); exact hb2.size; exact hbf))
 clear htf hb2 hAR hb3
 go_wp2_with fail
 go_region_held3 (fun w' => w'.cell? ⟨w.heap.size, 0, none⟩ = some (.int .i64 n) ∧ w'.cell? ⟨w.heap.size, 1, none⟩ = some (.slice a l.length cap)) (go_keep) (first
  | (go_at_call 127; refine (HSH.out _).mono ?_; rintro e w3 ⟨rfl, rfl⟩)
  | (go_at_call 129; refine (HST.out _ (by first | exact Below.refl _ _ | exact (Below.refl _ _).drew | exact below_drewN _ _ _)).mono ?_; rintro e w4 ⟨f, b1, b2, h, rfl, sy, F, T, x, sg, hiv, hor⟩; have y0 := (sg.below.cell (p := ⟨w.heap.size, 0, none⟩) s1).trans G0.out; have y1 := (sg.below.cell (p := ⟨w.heap.size, 1, none⟩) s1).trans G1.out)
  | (go_at_call 202; refine (goAll_any sy HG.out s (fun _ _ _ => True) (fun _ _ _ _ _ _ _ _ => trivial) (fun _ _ _ _ _ _ _ _ _ _ _ _ _ _ _ _ => trivial) sg ⟨0, Nat.zero_le _, hiv⟩ trivial).mono ?_; rintro e w5 ⟨rfl, F', T', x', sg', ⟨K, hK, hiv'⟩, _, hT⟩; have y2 := (sg'.below.cell (p := ⟨w.heap.size, 0, none⟩) s1).trans G0.out; have y3 := (sg'.below.cell (p := ⟨w.heap.size, 1, none⟩) s1).trans G1.out))
 have HFA := hid (far_of HG.out hiv' hK hT)
 have HTA := hid sg'.tab.2
 have HBB := hid (B1.out.trans (sg'.below.mono B1.out.size))
 have HBF := hid (Nat.le_trans B1.out.size hbf)
 clear sg sg' hiv hiv' hor hT hK sy y0 y1 y2 y3
 go_wp2_with fail
 go_ret2
 exact ⟨bf, rfl, F', HTA.out, HFA.out.1, HFA.out.2, HBF.out, HBB.out⟩
end Go.Proofs.YtaafkpojjdjphaaGreat.N5
