/-
  near.Within and flyoverref05.Within, right or refused. Contract of near.Within: its function reads marks that lie in older memory. Contract of near.Within.
-/
import Derived.Test.YtomlmphdnoempaaFromC
import Derived.Test.YtomlmphdnoempaaRDists
import Derived.Test.YtomlmphdnoempaaRes
import Derived.Test.YtomlmphdnoempaaMarks
namespace Go.Proofs.Ytomlmphdnoempaa
open Go.RowKit
open Hp (HR HRto Fr upd upd_self upd_ne TopIs)
/-- What is asked of a function that reads the blocks K besides. -/
structure FunK (n fid : Nat) (cs : Array Value) (ok : Nat → Bool) {X : Type} (XR : (Nat → Int) → X → Nat → Int → Int → X → Prop) (R : World → (Nat → Int) → X → Prop) (Q K : Nat → Prop) : Prop where
  lt : ∀ {w F x k}, R w F x → Q k ∨ K k → k < w.heap.size
  same : ∀ {w w' F x}, R w F x → (∀ k, Q k ∨ K k → w'.heap[k]? = w.heap[k]?) → R w' F x
  call : ∀ {w F x} {v : Nat} {d y : Int}, R w F x → v < n → 0 ≤ d → d ≤ Inf → Calls Try.prog fid (#[.int .i64 v, .int .u64 d, .int .i64 y] ++ cs) w fun e w1 => ∃ b, e = .returned (.bool b) ∧ Fr Q w w1 ∧
    (b = true ∧ ok v = true ∧ d < F v ∧ (∃ x', R w1 (updI F v d) x' ∧ XR F x v d y x') ∨ b = false ∧ ¬ (ok v = true ∧ d < F v) ∧ R w1 F x)
theorem sys_ofK {w0 : World} {f n : Nat} {a : Option Addr} {cap : Nat} {l : List A} {b1 b2 h fid : Nat} {cs : Array Value} {ok : Nat → Bool} {X : Type} {XR : (Nat → Int) → X → Nat → Int → Int → X → Prop} {R : World → (Nat → Int) → X → Prop} {Q K : Nat → Prop}
    (aw : AWalk fid cs) (fu : FunK n fid cs ok XR R Q K) (hr : Arcs w0 a l) (q1 : ¬ Q f) (q2 : ¬ Q b1) (q3 : ¬ Q b2) (hQ : ∀ k, Q k → w0.heap.size ≤ k) (hK : ∀ k, K k → k < w0.heap.size) : Sys f n a cap l b1 b2 h (.func (.func fid) #[] cs) ok XR (SG w0 f a cap l n b1 b2 h (.func (.func fid) #[] cs) R Q) := by
  have hon : ∀ {w w' F T x}, SG w0 f a cap l n b1 b2 h (.func (.func fid) #[] cs) R Q w F T x → Below w.heap.size w w' → SG w0 f a cap l n b1 b2 h (.func (.func fid) #[] cs) R Q w' F T x := by
    rintro w w' F T x ⟨D, s, r, hd, hb⟩ hb'
    exact ⟨D, s.on hb', fu.same r (fun k hk => hb'.block k (fu.lt r hk)), hd, hb.trans (hb'.mono hb.size)⟩
  have hno : ∀ {D : Nat → Prop}, (∀ k, D k → ¬ Q k ∧ w0.heap.size ≤ k) → ∀ k, Q k ∨ K k → ¬ D k := by
    rintro D hd k (hk | hk) e
    · exact (hd k e).1 hk
    · have := (hd k e).2; have := hK k hk; omega
  refine ⟨fun ⟨D, s, _⟩ => s.hd, fun ⟨D, s, _⟩ => s.t1, fun ⟨D, s, _⟩ => s.t2, fun ⟨D, _, _, _, hb⟩ => hr.on hb, ?_, hon, ?_⟩
  · rintro w F T x ⟨D, s, r, hd, hb⟩
    refine ⟨D, s.hp, fun w' T' ⟨D', hp, hd', hf⟩ => ⟨D', s.heap hp hd' hf, fu.same r (fun k hk => hf.block k (fu.lt r hk) (hno hd k hk)), fun k hk => ?_, ?_⟩⟩
    · rcases hd' k hk with e | e
      · exact hd k e
      · exact ⟨fun e' => by have := fu.lt r (Or.inl e'); omega, by have := hb.size; omega⟩
    · exact hb.trans (hf.below hb.size (fun k hk => (hd k hk).2))
  · intro w w1 F T x v d y hs hb1 hv hd0 hd1 hk
    obtain ⟨D, s1, r1, hd, hb⟩ := hs
    have hQlt : ∀ k, Q k → k < w1.heap.size := fun k hk => fu.lt r1 (Or.inl hk)
    have hDlt : ∀ k, D k → k < w1.heap.size := s1.hp.lt
    have s := s1.on hb1
    have r := fu.same r1 (fun k hk => hb1.block k (fu.lt r1 hk))
    have hbw := hb.trans (hb1.mono hb.size)
    refine aw w f h _ _ _ v d y (fun b wx => Fr Q w wx ∧ (b = true ∧ ok v = true ∧ d < F v ∧ (∃ x', R wx (updI F v d) x' ∧ XR F x v d y x') ∨ b = false ∧ ¬ (ok v = true ∧ d < F v) ∧ R wx F x)) _ s.hd (fu.call r hv hd0 hd1) ?_ ?_
    · rintro w2 ⟨hf, hor⟩
      have s2 := s.fr hf q1 q2 q3 (fun k hk => (hd k hk).1)
      refine ⟨s2.hd, (Hp.Lower_any s2.hp v d).mono ?_⟩
      rintro e w3 ⟨rfl, D', hp, hd', hf3⟩
      rcases hor with ⟨_, ho, hlt, x', r2, xr⟩ | ⟨h', _⟩
      · rw [low_upd hv hk hlt] at hp
        have hb2 := hbw.trans (hf.below hbw.size hQ)
        refine ⟨⟨_, _, rfl⟩, Or.inl ⟨ho, hlt, x', ⟨D', s2.heap hp hd' hf3, fu.same r2 (fun k hk => hf3.block k (fu.lt r2 hk) (hno hd k hk)), fun k hk => ?_, hb2.trans (hf3.below hb2.size (fun k hk => (hd k hk).2))⟩, xr⟩, fun k h1 h2 => ?_⟩
        · rcases hd' k hk with e | e
          · exact hd k e
          · exact ⟨fun e' => by have := fu.lt r2 (Or.inl e'); omega, by have := hb2.size; omega⟩
        · have := hf.size
          exact (hf3.block k (by omega) (fun e => by have := hDlt k e; omega)).trans (hf.block k h2 (fun e => by have := hQlt k e; omega))
      · cases h'
    · rintro w2 ⟨hf, hor⟩
      rcases hor with ⟨h', _⟩ | ⟨_, hno', r2⟩
      · cases h'
      · exact ⟨Or.inr ⟨hno', D, s.fr hf q1 q2 q3 (fun k hk => (hd k hk).1), r2, hd, hbw.trans (hf.below hbw.size hQ)⟩, fun k h1 h2 => hf.block k h2 (fun e => by have := hQlt k e; omega)⟩
theorem start_anyK {w0 w : World} {n : Nat} {a : Option Addr} {cap : Nat} {l : List A} {s fid : Nat} {cs : Array Value} {ok : Nat → Bool} {X : Type} {XR : (Nat → Int) → X → Nat → Int → Int → X → Prop} {R : World → (Nat → Int) → X → Prop} {Q K : Nat → Prop} {x0 : X}
    (aw : AWalk fid cs) (fu : FunK n fid cs ok XR R Q K) (g : RG n l) (hr : Arcs w0 a l) (hb : Below w0.heap.size w0 w) (hs : s < n) (hR : R w (fun _ => Inf) x0) (hQ : ∀ k, Q k → w0.heap.size ≤ k) (hK : ∀ k, K k → k < w0.heap.size) :
    Calls Try.prog 35 #[.agg #[.int .i64 n, .slice a l.length cap], .int .i64 s, .func (.func fid) #[] cs] w fun e w' => ∃ f b1 b2 h, e = .returned (.pointer (some ⟨f, 0, none⟩)) ∧ Sys f n a cap l b1 b2 h (.func (.func fid) #[] cs) ok XR (SG w0 f a cap l n b1 b2 h (.func (.func fid) #[] cs) R Q) ∧
      ∃ F T x, SG w0 f a cap l n b1 b2 h (.func (.func fid) #[] cs) R Q w' F T x ∧ Inv l ok s F T 0 (fun _ => False) := by
  refine begin_any n a l cap s fid cs w g (hr.on hb) (fun f b1 b2 h w' => Sys f n a cap l b1 b2 h (.func (.func fid) #[] cs) ok XR (SG w0 f a cap l n b1 b2 h (.func (.func fid) #[] cs) R Q) ∧
      ∃ F T x, SG w0 f a cap l n b1 b2 h (.func (.func fid) #[] cs) R Q w' F T x ∧ Inv l ok s F T 0 (fun _ => False)) ?_
  intro f b1 b2 h D w1 sr l1 l2 l3 _ _ _ hD hb1
  have hQlt : ∀ k, Q k → k < w.heap.size := fun k hk => fu.lt hR (Or.inl hk)
  have nq : ∀ k, w.heap.size ≤ k → ¬ Q k := fun k hk e => by have := hQlt k e; omega
  have sy := sys_ofK (h := h) (cap := cap) aw fu hr (nq f l1) (nq b1 l2) (nq b2 l3) hQ hK
  have hbw := hb.trans (hb1.mono hb.size)
  have sg : SG w0 f a cap l n b1 b2 h (.func (.func fid) #[] cs) R Q w1 (fun _ => Inf) (fun _ => none) x0 :=
    ⟨D, sr, fu.same hR (fun k hk => hb1.block k (fu.lt hR hk)), fun k hk => ⟨nq k (hD k hk), Nat.le_trans hb.size (hD k hk)⟩, hbw⟩
  refine (sy.arr (v := s) (d := 0) (y := -1) sg (Below.refl _ _) hs (Int.le_refl _) (by unfold Inf; omega) (fun k e => by cases e)).mono ?_
  rintro e w2 ⟨rfl, hor, _⟩
  refine ⟨rfl, sy, ?_⟩
  rcases hor with ⟨ho, _, x', sg', xr⟩ | ⟨hno, sg'⟩
  · exact ⟨_, _, x', sg', Inv.init0 l ok s _ ho⟩
  · have ho : ok s = false := by
      cases e : ok s with
      | false => rfl
      | true => exact absurd ⟨e, by unfold Inf; omega⟩ hno
    exact ⟨_, _, x0, sg', Inv.init l ok s _ ho⟩
/-- The lengths in bf (its variable c, the function's cs), the marks in bi (their variable ci). -/
def R4 (n c bf cs ci bi oi m : Nat) (ok : Nat → Bool) (w : World) (F : Nat → Int) (_ : Unit) : Prop :=
  R1 n c bf w F () ∧ w.heap[cs]? = some (.cells #[.func (.func 58) #[] #[.pointer (some ⟨c, 0, none⟩)]] 68) ∧ w.heap[ci]? = some (.cells #[.slice (some ⟨bi, oi, none⟩) n m] 40) ∧ bi < w.heap.size ∧ ∀ v, v < n → w.cell? ⟨bi, oi + v, none⟩ = some (.bool (ok v))
def Q4 (c bf cs : Nat) (k : Nat) : Prop := k = c ∨ k = bf ∨ k = cs
set_option maxHeartbeats 800000 in
theorem withf_any (n c bf cs ci bi oi m : Nat) (ok : Nat → Bool) (w : World) (F : Nat → Int) (v : Nat) (d y : Int) (r : R4 n c bf cs ci bi oi m ok w F ()) (hv : v < n) :
    Calls Try.prog 47 #[.int .i64 v, .int .u64 d, .int .i64 y, .pointer (some ⟨ci, 0, none⟩), .pointer (some ⟨cs, 0, none⟩)] w fun e w' => e = .returned (.bool (ok v && decide (d < F v))) ∧ w' = if ok v = true ∧ d < F v then w.setCell ⟨bf, v, none⟩ (.int .u64 d) else w := by
  obtain ⟨⟨r1, r2⟩, r3, r4, _, r6⟩ := r
  have HS := Lib.hid (short_any w c bf n v d y F hv r1 r2)
  obtain ⟨a0, -⟩ := one_cell r3
  obtain ⟨a1, -⟩ := one_cell r4
  have a2 := r6 v hv
  have hv' : (v : Int) < n := by omega
  cases ho : ok v with
  | false =>
    rw [ho] at a2
    rw [if_neg (by simp)]
    clear r1 r2 r3 r4 r6 ho
    go_enter Try.func47, Try.ntmps47
    go_wp2_with fail
    go_ret
    exact ⟨by simp, rfl⟩
  | true =>
    rw [ho] at a2
    obtain ⟨q, HQ⟩ := named (decide (d < F v))
    have HIF : Hid ((if d < F v then w.setCell ⟨bf, v, none⟩ (.int .u64 d) else w) = (if true = true ∧ d < F v then w.setCell ⟨bf, v, none⟩ (.int .u64 d) else w)) := by show _ = _; simp
    rw [HIF.out] at HS
    generalize (if true = true ∧ d < F v then w.setCell ⟨bf, v, none⟩ (.int .u64 d) else w) = W at *
    rw [HQ.out] at HS ⊢
    clear r1 r2 r3 r4 r6 ho HIF HQ
    go_enter Try.func47, Try.ntmps47
    go_wp2_with fail
    refine HS.out.mono ?_
    rintro e w1 ⟨rfl, rfl⟩
    cases q with
    | true =>
      go_wp2_with fail
      go_ret
      exact ⟨rfl, rfl⟩
    | false =>
      go_wp2_with fail
      go_ret
      exact ⟨rfl, rfl⟩
theorem fun4 (n c bf cs ci bi oi m : Nat) (ok : Nat → Bool) (h1 : c ≠ bf) (h2 : cs ≠ bf) (h3 : ci ≠ bf) (h4 : bi ≠ bf) :
    FunK n 47 #[.pointer (some ⟨ci, 0, none⟩), .pointer (some ⟨cs, 0, none⟩)] ok (X := Unit) (fun _ _ _ _ _ _ => True) (R4 n c bf cs ci bi oi m ok) (Q4 c bf cs) (fun k => k = ci ∨ k = bi) := by
  refine ⟨?_, ?_, ?_⟩
  · rintro w F x k ⟨⟨r1, r2⟩, r3, r4, r5, r6⟩ ((rfl | rfl | rfl) | (rfl | rfl))
    · exact lt_of_block r1
    · exact r2.lt
    · exact lt_of_block r3
    · exact lt_of_block r4
    · exact r5
  · rintro w w' F x ⟨⟨r1, r2⟩, r3, r4, r5, r6⟩ hs
    have hbi := hs bi (Or.inr (Or.inr rfl))
    refine ⟨⟨(hs _ (Or.inl (Or.inl rfl))).trans r1, r2.same (hs _ (Or.inl (Or.inr (Or.inl rfl))))⟩, (hs _ (Or.inl (Or.inr (Or.inr rfl)))).trans r3, (hs _ (Or.inr (Or.inl rfl))).trans r4, ?_, fun v hv => (World.cell?_of_block (a := ⟨bi, oi + v, none⟩) hbi).trans (r6 v hv)⟩
    obtain ⟨o, ho⟩ : ∃ o, w.heap[bi]? = some o := ⟨w.heap[bi], Array.getElem?_eq_getElem r5⟩
    exact lt_of_block (hbi.trans ho)
  · intro w F x v d y r hv hd0 hd1
    refine (withf_any n c bf cs ci bi oi m ok w F v d y r hv).mono ?_
    rintro e w1 ⟨rfl, rfl⟩
    obtain ⟨⟨r1, r2⟩, r3, r4, r5, r6⟩ := r
    refine ⟨_, rfl, ?_, ?_⟩
    · split
      · exact Fr.set1 (Or.inr (Or.inl rfl))
      · exact Hp.Fr.refl _ _
    · by_cases h : ok v = true ∧ d < F v
      · rw [if_pos h]
        refine Or.inl ⟨by simp [h.1, h.2], h.1, h.2, (), ⟨⟨?_, ?_⟩, ?_, ?_, ?_, fun u hu => ?_⟩, trivial⟩
        · exact (Below.heap_setCell _ _ _ _ h1).trans r1
        · exact r2.set v d
        · exact (Below.heap_setCell _ _ _ _ h2).trans r3
        · exact (Below.heap_setCell _ _ _ _ h3).trans r4
        · exact Nat.lt_of_lt_of_le r5 (by simp [World.setCell])
        · exact (World.cell?_of_block (a := ⟨bi, oi + u, none⟩) (Below.heap_setCell _ _ _ _ h4)).trans (r6 u hu)
      · rw [if_neg h]
        refine Or.inr ⟨?_, h, ⟨r1, r2⟩, r3, r4, r5, r6⟩
        cases ho : ok v with
        | false => rfl
        | true => simp only [Bool.true_and, decide_eq_false_iff_not]; exact fun e => h ⟨ho, e⟩
end Go.Proofs.Ytomlmphdnoempaa
namespace Go.Proofs.Ytomlmphdnoempaa
open Go.RowKit
open Hp (HR HRto Fr upd upd_self upd_ne TopIs)
set_option maxHeartbeats 1600000 in
set_option maxRecDepth 100000 in
theorem within_ok (n : Nat) (a : Option Addr) (l : List A) (cap : Nat) (s : Nat) (ai : Option Addr) (m : Nat) (ok : Nat → Bool) (w : World) (g : RG n l) (hs : s < n) (hE : nearE n l [(s : Int)] = 0) (hr : Arcs w a l) (hm : Mks w ai n ok) :
    Calls Try.prog 21 #[.agg #[.int .i64 n, .slice a l.length cap], .int .i64 s, .slice ai n m] w fun e w' => ∃ bf, e = .returned (.tuple #[.slice (some ⟨bf, 0, none⟩) n n, .int .i64 0]) ∧ FarIs w w' bf n l ok s := by
  have hnb := g.nb
  have hlb := g.lb
  have hb0 : Below w.heap.size w (((w.alloc (.cells #[.int .i64 n, .slice a l.length cap] 24)).alloc (.cells #[.slice ai n m] 40)).alloc (.cells #[.int .i64 s] 3)) := (((Below.refl _ _).alloc (Nat.le_refl _) _).alloc (by simp) _).alloc (by simp; omega) _
  have hg : (((w.alloc (.cells #[.int .i64 n, .slice a l.length cap] 24)).alloc (.cells #[.slice ai n m] 40)).alloc (.cells #[.int .i64 s] 3)).heap[w.heap.size]? = some (.cells #[.int .i64 n, .slice a l.length cap] 24) := (Below.heap_alloc _ _ _ (by simp; omega)).trans ((Below.heap_alloc _ _ _ (by simp)).trans (heap_top w _))
  have hc : (((w.alloc (.cells #[.int .i64 n, .slice a l.length cap] 24)).alloc (.cells #[.slice ai n m] 40)).alloc (.cells #[.int .i64 s] 3)).heap[w.heap.size + 1]? = some (.cells #[.slice ai n m] 40) := (Below.heap_alloc _ _ _ (by simp)).trans (heap_top_at _ _ _ (by simp))
  have hi := one_int ((w.alloc (.cells #[.int .i64 n, .slice a l.length cap] 24)).alloc (.cells #[.slice ai n m] 40)) s
  rw [World.size_alloc, World.size_alloc] at hi
  have HCK := Lib.hid (ncheck_any n a l cap _ [(s : Int)] 1 _ (by omega) (by simp) (hr.on hb0) hi)
  rw [hE] at HCK
  have HG := Lib.hid g
  have HR := Lib.hid hr
  obtain ⟨bi, oi, rfl, hbi, hmk⟩ := hm
  have HMK := Lib.hid hmk
  clear g hr hE hi hmk
  go_enter Try.func21, Try.ntmps21
  go_wp2_with fail
  refine HCK.out.mono ?_
  rintro e w1 ⟨rfl, hb1⟩
  have hg1 := (hb1.block _ (lt_of_block hg)).trans hg
  have hc1 := (hb1.block _ (lt_of_block hc)).trans hc
  have b1 : Below w.heap.size w w1 := hb0.trans (hb1.mono hb0.size)
  have s1 := lt_of_block hg1
  have s2 := lt_of_block hc1
  clear hg hb0 hb1 HCK hc
  obtain ⟨⟨g0, g1⟩, -⟩ := two_cells hg1
  obtain ⟨c0, -⟩ := one_cell hc1
  have HUN := Lib.hid (unreached_any n (by omega) w1)
  go_wp2_with fail
  refine HUN.out.mono ?_
  rintro e w2 ⟨bf, rfl, htf, hbf, hb2⟩
  have g0' := (hb2.cell (p := ⟨w.heap.size, 0, none⟩) s1).trans g0
  have g1' := (hb2.cell (p := ⟨w.heap.size, 1, none⟩) s1).trans g1
  have hc2 := (hb2.block _ s2).trans hc1
  have z1 := htf.lt
  have s3 := hb2.size
  clear g0 g1 c0 HUN
  have B1 := Lib.hid b1
  have HAR := Lib.hid (HR.out.on b1)
  have HSH := Lib.hid (shorter_any ⟨bf, 0, none⟩ n n w2)
  have hbi1 : bi < w1.heap.size := Nat.lt_of_lt_of_le hbi b1.size
  have hb3 : Below w1.heap.size w1 ((w2.alloc (.cells #[.slice (some ⟨bf, 0, none⟩) n n] 28)).alloc (.cells #[.func (.func 58) #[] #[.pointer (some ⟨w2.heap.size, 0, none⟩)]] 68)) := (hb2.alloc s3 _).alloc (by simp; omega) _
  have hR4 : R4 n w2.heap.size bf (w2.heap.size + 1) (w.heap.size + 1) bi oi m ok ((w2.alloc (.cells #[.slice (some ⟨bf, 0, none⟩) n n] 28)).alloc (.cells #[.func (.func 58) #[] #[.pointer (some ⟨w2.heap.size, 0, none⟩)]] 68)) (fun _ => Inf) () :=
    ⟨⟨(Below.heap_alloc _ _ _ (by simp)).trans (heap_top w2 _), (htf.alloc _).alloc _⟩, heap_top_at _ _ _ (by simp), (hb3.block _ s2).trans hc1, Nat.lt_of_lt_of_le hbi1 hb3.size, fun v hv => ((b1.trans (hb3.mono b1.size)).cell (p := ⟨bi, oi + v, none⟩) hbi).trans (HMK.out v hv)⟩
  have HST := Lib.hid (start_anyK (w0 := w1) (cap := cap) (s := s) (x0 := ()) (awalk47 (.pointer (some ⟨w.heap.size + 1, 0, none⟩)) (.pointer (some ⟨w2.heap.size + 1, 0, none⟩))) (fun4 n w2.heap.size bf (w2.heap.size + 1) (w.heap.size + 1) bi oi m ok (by omega) (by omega) (by omega) (by omega)) HG.out HAR.out hb3 hs hR4 (by rintro k (rfl | rfl | rfl) <;> omega) (by rintro k (rfl | rfl) <;> omega))
  have g0d := cell_al (k := w2.heap.size) (o := .cells #[.slice (some ⟨bf, 0, none⟩) n n] 28) g0' (by show w.heap.size ≠ _; omega)
  have g1d := cell_al (k := w2.heap.size) (o := .cells #[.slice (some ⟨bf, 0, none⟩) n n] 28) g1' (by show w.heap.size ≠ _; omega)
  have g0e := cell_al (k := w2.heap.size + 1) (o := .cells #[.func (.func 58) #[] #[.pointer (some ⟨w2.heap.size, 0, none⟩)]] 68) g0d (by show w.heap.size ≠ _; omega)
  have g1e := cell_al (k := w2.heap.size + 1) (o := .cells #[.func (.func 58) #[] #[.pointer (some ⟨w2.heap.size, 0, none⟩)]] 68) g1d (by show w.heap.size ≠ _; omega)
  have HBF := Lib.hid (Nat.le_trans b1.size hbf)
  clear hb3 hR4 htf hc1 hc2 hg1 b1
  go_wp2_with fail
  refine HSH.out.mono ?_
  rintro e w3 ⟨rfl, rfl⟩
  go_wp2_with fail
  refine HST.out.mono ?_
  rintro e w4 ⟨f, b1, b2, h, rfl, sy, F, T, x, sg, hiv⟩
  have HGO := Lib.hid (goAll_any sy HG.out s (fun _ _ _ => True) (fun _ _ _ _ _ _ _ _ => trivial) (fun _ _ _ _ _ _ _ _ _ _ _ _ _ _ _ _ => trivial) sg ⟨0, Nat.zero_le _, hiv⟩ trivial)
  clear g0' g1' g0d g1d g0e g1e sg hiv HST HSH
  go_wp2_with fail
  refine HGO.out.mono ?_
  rintro e w5 ⟨rfl, F', T', x', sg', ⟨K, hK, hiv'⟩, _, hT⟩
  have HFA := Lib.hid (far_of HG.out hiv' hK hT)
  have HTA := Lib.hid sg'.tab.1.2
  have HBB := Lib.hid (B1.out.trans (sg'.below.mono B1.out.size))
  clear sg' hiv' hT hK sy
  go_wp2_with fail
  go_ret2
  exact ⟨bf, rfl, F', HTA.out, HFA.out.1, HFA.out.2, HBF.out, HBB.out⟩
set_option maxHeartbeats 1600000 in
set_option maxRecDepth 100000 in
theorem within_no (N : Int) (a : Option Addr) (l : List A) (cap : Nat) (s : Int) (ai : Option Addr) (len m : Nat) (w : World) (hl : l.length ≤ 9223372036854775807) (hE : nearE N l [s] ≠ 0) (hr : Arcs w a l) :
    Calls Try.prog 21 #[.agg #[.int .i64 N, .slice a l.length cap], .int .i64 s, .slice ai len m] w fun e w' => e = .returned (.tuple #[.slice none 0 0, .int .i64 (nearE N l [s])]) ∧ Below w.heap.size w w' := by
  have hb0 : Below w.heap.size w (((w.alloc (.cells #[.int .i64 N, .slice a l.length cap] 24)).alloc (.cells #[.slice ai len m] 40)).alloc (.cells #[.int .i64 s] 3)) := (((Below.refl _ _).alloc (Nat.le_refl _) _).alloc (by simp) _).alloc (by simp; omega) _
  have hi := one_int ((w.alloc (.cells #[.int .i64 N, .slice a l.length cap] 24)).alloc (.cells #[.slice ai len m] 40)) s
  rw [World.size_alloc, World.size_alloc] at hi
  have HCK := Lib.hid (ncheck_any N a l cap _ [s] 1 _ hl (by simp) (hr.on hb0) hi)
  have hE' : (nearE N l [s] == 0) = false := beq_eq_false_iff_ne.2 hE
  generalize nearE N l [s] = E at *
  clear hi hE hr
  go_enter Try.func21, Try.ntmps21
  go_wp2_with fail
  refine HCK.out.mono ?_
  rintro e w1 ⟨rfl, hb1⟩
  have b1 : Below w.heap.size w w1 := hb0.trans (hb1.mono hb0.size)
  go_wp2_with fail
  go_ret2
  exact ⟨rfl, b1⟩
set_option maxHeartbeats 1600000 in
set_option maxRecDepth 100000 in
theorem within_shape (N : Int) (a : Option Addr) (l : List A) (cap : Nat) (s : Int) (ai : Option Addr) (len m : Nat) (w : World) (hl : l.length ≤ 9223372036854775807) (hE : nearE N l [s] = 0) (hne : (len : Int) ≠ N) (hr : Arcs w a l) :
    Calls Try.prog 21 #[.agg #[.int .i64 N, .slice a l.length cap], .int .i64 s, .slice ai len m] w fun e w' => e = .returned (.tuple #[.slice none 0 0, .int .i64 4]) ∧ Below w.heap.size w w' := by
  have hb0 : Below w.heap.size w (((w.alloc (.cells #[.int .i64 N, .slice a l.length cap] 24)).alloc (.cells #[.slice ai len m] 40)).alloc (.cells #[.int .i64 s] 3)) := (((Below.refl _ _).alloc (Nat.le_refl _) _).alloc (by simp) _).alloc (by simp; omega) _
  have hg : (((w.alloc (.cells #[.int .i64 N, .slice a l.length cap] 24)).alloc (.cells #[.slice ai len m] 40)).alloc (.cells #[.int .i64 s] 3)).heap[w.heap.size]? = some (.cells #[.int .i64 N, .slice a l.length cap] 24) := (Below.heap_alloc _ _ _ (by simp; omega)).trans ((Below.heap_alloc _ _ _ (by simp)).trans (heap_top w _))
  have hc : (((w.alloc (.cells #[.int .i64 N, .slice a l.length cap] 24)).alloc (.cells #[.slice ai len m] 40)).alloc (.cells #[.int .i64 s] 3)).heap[w.heap.size + 1]? = some (.cells #[.slice ai len m] 40) := (Below.heap_alloc _ _ _ (by simp)).trans (heap_top_at _ _ _ (by simp))
  have hi := one_int ((w.alloc (.cells #[.int .i64 N, .slice a l.length cap] 24)).alloc (.cells #[.slice ai len m] 40)) s
  rw [World.size_alloc, World.size_alloc] at hi
  have HCK := Lib.hid (ncheck_any N a l cap _ [s] 1 _ hl (by simp) (hr.on hb0) hi)
  rw [hE] at HCK
  have hne' : ((len : Int) == N) = false := beq_eq_false_iff_ne.2 hne
  clear hi hE hr hne
  go_enter Try.func21, Try.ntmps21
  go_wp2_with fail
  refine HCK.out.mono ?_
  rintro e w1 ⟨rfl, hb1⟩
  have hg1 := (hb1.block _ (lt_of_block hg)).trans hg
  have hc1 := (hb1.block _ (lt_of_block hc)).trans hc
  have b1 : Below w.heap.size w w1 := hb0.trans (hb1.mono hb0.size)
  clear hg hb0 hb1 HCK hc
  obtain ⟨⟨g0, g1⟩, -⟩ := two_cells hg1
  obtain ⟨c0, -⟩ := one_cell hc1
  go_wp2_with fail
  go_ret2
  exact ⟨rfl, b1⟩
end Go.Proofs.Ytomlmphdnoempaa
namespace Go.Proofs.Ytomlmphdnoempaa
open Go.RowKit
/-- What is wrong with a graph, a vertex and marks. -/
def wE (N : Int) (l : List A) (s : Int) (m : Nat) : Int := if nearE N l [s] = 0 then (if (m : Int) = N then 0 else 4) else nearE N l [s]
theorem bools_mks {w : World} {a : Option Addr} {q : List Bool} (h : Bools (· < w.heap.size) w a q) (h0 : 0 < q.length) : Mks w a q.length (mk q) := by
  obtain ⟨b, o, hg⟩ := h.get
  obtain ⟨rfl, h1, h2⟩ := hg h0
  exact ⟨b, o, rfl, h1, fun v hv => h2 v hv⟩
theorem within_v (N : Int) (a : Option Addr) (l : List A) (cap : Nat) (s : Int) (ai : Option Addr) (q : List Bool) (m : Nat) (w : World) (hl : l.length ≤ 9223372036854775807) (hw : ∀ x ∈ l, 0 ≤ x.w ∧ x.w < 4294967296) (hr : Arcs w a l) (hq : Bools (· < w.heap.size) w ai q) :
    Calls Try.prog 21 #[.agg #[.int .i64 N, .slice a l.length cap], .int .i64 s, .slice ai q.length m] w fun e w' => ∃ v, e = .returned (.tuple #[v, .int .i64 (wE N l s q.length)]) ∧ Dv w.heap.size w'.heap.size w' v N l (mk q) s (wE N l s q.length) ∧ Below w.heap.size w w' := by
  by_cases hE : nearE N l [s] = 0
  · by_cases hN : (q.length : Int) = N
    · have hE0 : wE N l s q.length = 0 := by unfold wE; rw [if_pos hE, if_pos hN]
      obtain ⟨n, s', h1, rfl, hs, g⟩ := near_one hE hw
      obtain rfl : n = q.length := by omega
      subst hN
      refine (within_ok q.length a l cap s' ai m (mk q) w g hs hE hr (bools_mks hq (by omega))).mono ?_
      rintro e w' ⟨bf, rfl, F, tf, hd, _, hbf, hb⟩
      rw [hE0]
      exact ⟨_, rfl, Or.inr ⟨rfl, q.length, s', bf, F, rfl, rfl, g.nb, hs, rfl, tf, hd, hbf, tf.lt⟩, hb⟩
    · have hE0 : wE N l s q.length = 4 := by unfold wE; rw [if_pos hE, if_neg hN]
      refine (within_shape N a l cap s ai q.length m w hl hE hN hr).mono ?_
      rintro e w' ⟨rfl, hb⟩
      rw [hE0]
      exact ⟨_, rfl, Or.inl ⟨by omega, rfl⟩, hb⟩
  · have hE0 : wE N l s q.length = nearE N l [s] := by unfold wE; rw [if_neg hE]
    refine (within_no N a l cap s ai q.length m w hl hE hr).mono ?_
    rintro e w' ⟨rfl, hb⟩
    rw [hE0]
    exact ⟨_, rfl, Or.inl ⟨hE, rfl⟩, hb⟩
set_option maxHeartbeats 1600000 in
set_option maxRecDepth 100000 in
theorem rwithin_v (N : Int) (a : Option Addr) (l : List A) (cap : Nat) (s : Int) (ai : Option Addr) (q : List Bool) (m : Nat) (w : World) (hl : l.length ≤ 9223372036854775807) (hql : q.length ≤ 140737488351232) (hw : ∀ x ∈ l, 0 ≤ x.w ∧ x.w < 4294967296) (hr : Arcs w a l) (hq : Bools (· < w.heap.size) w ai q) :
    Calls Try.prog 22 #[.agg #[.int .i64 N, .slice a l.length cap], .int .i64 s, .slice ai q.length m] w fun e w' => ∃ v, e = .returned (.tuple #[v, .int .i64 (wE N l s q.length)]) ∧ Dv w.heap.size w'.heap.size w' v N l (mk q) s (wE N l s q.length) ∧ Below w.heap.size w w' := by
  have hb0 : Below w.heap.size w (w.alloc (.cells #[.int .i64 N, .slice a l.length cap] 24)) := (Below.refl _ _).alloc (Nat.le_refl _) _
  have hg := heap_top w (.cells #[.int .i64 N, .slice a l.length cap] 24)
  have HLK := Lib.hid (looked_any N a l cap s s _ hl (hr.on hb0))
  rw [nearE_twice] at HLK
  have HR := Lib.hid hr
  have HQ := Lib.hid hq
  by_cases hE : nearE N l [s] = 0
  · rw [hE] at HLK
    by_cases hN : (q.length : Int) = N
    · have hE0 : wE N l s q.length = 0 := by unfold wE; rw [if_pos hE, if_pos hN]
      obtain ⟨n, s', h1, rfl, hs, g⟩ := near_one hE hw
      obtain rfl : n = q.length := by omega
      subst hN
      rw [hE0]
      have HG := Lib.hid g
      obtain ⟨Q, HQL⟩ := named q.length
      have HDI := Lib.hid (fun (w' : World) (hb : Below w.heap.size w w') => dists_any q.length a l cap s' ai m (mk q) w' HG.out hs (HR.out.on hb) ((bools_mks HQ.out (by omega)).on hb))
      have HSS := Lib.hid hs
      rw [HQL.out] at HDI HSS HLK hg hb0 HG ⊢
      clear hE0 g hr hq hE h1 hs
      go_enter Try.func22, Try.ntmps22
      go_wp2_with fail
      refine HLK.out.mono ?_
      rintro e w1 ⟨rfl, hb1⟩
      have b1 : Below w.heap.size w w1 := hb0.trans (hb1.mono hb0.size)
      have hg1 := (hb1.block _ (lt_of_block hg)).trans hg
      obtain ⟨⟨g0, g1⟩, -⟩ := two_cells hg1
      have HC := Lib.hid (HDI.out w1 b1)
      clear hg hb0 hb1 HLK hg1
      go_wp2_with fail
      refine HC.out.mono ?_
      rintro e w2 ⟨bf, rfl, F, tf, hisd, hbf, hb2⟩
      have HF : Hid (Dv w.heap.size w2.heap.size w2 (.slice (some ⟨bf, 0, none⟩) Q Q) (Q : Int) l (mk q) (s' : Int) 0 ∧ Below w.heap.size w w2) := ⟨Or.inr ⟨rfl, Q, s', bf, F, rfl, rfl, HG.out.nb, HSS.out, rfl, tf, hisd, Nat.le_trans b1.size hbf, tf.lt⟩, b1.trans (hb2.mono b1.size)⟩
      clear tf hisd
      go_wp2_with fail
      go_ret2
      exact ⟨_, rfl, HF.out.1, HF.out.2⟩
    · have hE0 : wE N l s q.length = 4 := by unfold wE; rw [if_pos hE, if_neg hN]
      have hN' : ((q.length : Int) == N) = false := beq_eq_false_iff_ne.2 hN
      rw [hE0]
      clear hE hE0 hN hr hq
      go_enter Try.func22, Try.ntmps22
      go_wp2_with fail
      refine HLK.out.mono ?_
      rintro e w1 ⟨rfl, hb1⟩
      have b1 : Below w.heap.size w w1 := hb0.trans (hb1.mono hb0.size)
      have hg1 := (hb1.block _ (lt_of_block hg)).trans hg
      obtain ⟨⟨g0, g1⟩, -⟩ := two_cells hg1
      go_wp2_with fail
      go_ret2
      exact ⟨_, rfl, Or.inl ⟨by omega, rfl⟩, b1⟩
  · have hE0 : wE N l s q.length = nearE N l [s] := by unfold wE; rw [if_neg hE]
    have hE' : (nearE N l [s] == 0) = false := beq_eq_false_iff_ne.2 hE
    rw [hE0]
    have HE := Lib.hid hE
    generalize nearE N l [s] = E at *
    clear hE hE0 hr hq
    go_enter Try.func22, Try.ntmps22
    go_wp2_with fail
    refine HLK.out.mono ?_
    rintro e w1 ⟨rfl, hb1⟩
    have b1 : Below w.heap.size w w1 := hb0.trans (hb1.mono hb0.size)
    go_wp2_with fail
    go_ret2
    exact ⟨_, rfl, Or.inl ⟨HE.out, rfl⟩, b1⟩
end Go.Proofs.Ytomlmphdnoempaa
