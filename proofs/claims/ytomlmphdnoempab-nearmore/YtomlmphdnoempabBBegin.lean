/-
  Both searches of near.Between begin.
-/
import Derived.Test.YtomlmphdnoempabMeet
namespace Go.Proofs.Ytomlmphdnoempab
open Go.RowKit
open Hp (HR HRto Fr upd upd_self upd_ne TopIs)
theorem begin_side {n bb bo c bf cs co cap s : Nat} {a : Option Addr} {l : List A} {w0 w : World} {O : Nat → Prop} {x0 : Int × (Nat → Int)} (h1 : c ≠ bf) (h2 : cs ≠ bf) (h3 : co ≠ bf) (h4 : bo ≠ bf) (h5 : bb ≠ bf) (h6 : c ≠ bb) (h7 : cs ≠ bb) (h8 : co ≠ bb) (h9 : bo ≠ bb)
    (g : RG n l) (hr : Arcs w0 a l) (hb : Below w0.heap.size w0 w) (hs : s < n) (hR : R3 n c bf cs co bo bb w (fun _ => Inf) x0) (hQ : ∀ k, Q3 c bf cs co bo bb k → w0.heap.size ≤ k) (hO : ∀ k, O k → k < w.heap.size ∧ ¬ Q3 c bf cs co bo bb k) :
    Calls Try.prog 17 #[.agg #[.int .i64 n, .slice a l.length cap], .int .i64 s, .func (.func 15) #[] #[.pointer (some ⟨cs, 0, none⟩), .pointer (some ⟨bb, 0, none⟩), .pointer (some ⟨co, 0, none⟩)]] w fun e w' => ∃ f b1 b2 h, e = .returned (.pointer (some ⟨f, 0, none⟩)) ∧ (w.heap.size ≤ f ∧ w.heap.size ≤ b1 ∧ w.heap.size ≤ b2) ∧
      (Sd.mk f b1 b2 h c bf cs co a cap l).G bo n bb w0 w O w' (updI (fun _ => Inf) s 0) (upd (fun _ => none) s (some 0)) (minI x0.1 (sat 0 (x0.2 s)), x0.2) ∧ Inv l Al s (updI (fun _ => Inf) s 0) (upd (fun _ => none) s (some 0)) 0 (fun _ => False) := by
  refine (start_anyO (awalk43 _ _ _) (fun3 n c bf cs co bo bb h1 h2 h3 h4 h5 h6 h7 h8 h9) g hr hb hs hR hQ hO).mono ?_
  rintro e w' ⟨f, b1, b2, h, rfl, hl, F, T, x, sg, hi, hor⟩
  rcases hor with ⟨_, rfl, rfl, rfl⟩ | ⟨h', _⟩
  · exact ⟨f, b1, b2, h, rfl, hl, sg, hi⟩
  · cases h'
/-- What stands ahead of the first search. -/
structure Pre (n bb bf1 bf2 : Nat) (w0 w : World) : Prop where
  b : Below w0.heap.size w0 w
  t1 : Tb w bf1 n 27 .u64 (fun _ => Inf)
  t2 : Tb w bf2 n 27 .u64 (fun _ => Inf)
  be : w.heap[bb]? = some (.cells #[.int .u64 Inf] 27)
  l1 : w0.heap.size ≤ bf1
  l2 : w0.heap.size ≤ bf2
  l3 : w0.heap.size ≤ bb
  n1 : bf1 ≠ bf2
  n2 : bb ≠ bf1
  n3 : bb ≠ bf2
/-- The world behind the function's making. -/
def boxes (w : World) (n far other : Nat) : World := ((w.alloc (.cells #[.slice (some ⟨other, 0, none⟩) n n] 34)).alloc (.cells #[.slice (some ⟨far, 0, none⟩) n n] 34)).alloc (.cells #[.func (.func 26) #[] #[.pointer (some ⟨w.heap.size + 1, 0, none⟩)]] 48)
theorem boxes_size (w : World) (n far other : Nat) : (boxes w n far other).heap.size = w.heap.size + 3 := by simp [boxes]
theorem boxes_below (w : World) (n far other : Nat) : Below w.heap.size w (boxes w n far other) := (((Below.refl _ _).alloc (Nat.le_refl _) _).alloc (by simp) _).alloc (by simp; omega) _
theorem boxes_co (w : World) (n far other : Nat) : (boxes w n far other).heap[w.heap.size]? = some (.cells #[.slice (some ⟨other, 0, none⟩) n n] 34) := (Below.heap_alloc _ _ _ (by simp; omega)).trans ((Below.heap_alloc _ _ _ (by simp)).trans (heap_top w _))
theorem boxes_c (w : World) (n far other : Nat) : (boxes w n far other).heap[w.heap.size + 1]? = some (.cells #[.slice (some ⟨far, 0, none⟩) n n] 34) := (Below.heap_alloc _ _ _ (by simp)).trans (heap_top_at _ _ _ (by simp))
theorem boxes_cs (w : World) (n far other : Nat) : (boxes w n far other).heap[w.heap.size + 2]? = some (.cells #[.func (.func 26) #[] #[.pointer (some ⟨w.heap.size + 1, 0, none⟩)]] 48) := heap_top_at _ _ _ (by simp)
theorem inf_rng : (0 : Int) ≤ Inf ∧ Inf ≤ Inf := ⟨by unfold Inf; omega, Int.le_refl _⟩
/-- The first search has begun. -/
structure One (n bb bf1 bf2 : Nat) (w0 : World) (m : Nat) (z : Sd) (s : Nat) (a : Option Addr) (cap : Nat) (l : List A) (w : World) : Prop where
  ex : ∃ D best, z.S n bb w (upd (fun _ => none) s (some 0)) D ∧ z.R bf2 n bb w (updI (fun _ => Inf) s 0) (best, fun _ => Inf) ∧ (∀ k, D k → ¬ z.Q bf2 bb k ∧ w0.heap.size ≤ k) ∧ BJ l s 0 (updI (fun _ => Inf) s 0) (fun _ => Inf) best ∧ best = Inf
  b : Below w0.heap.size w0 w
  e : z.bf = bf1 ∧ z.a = a ∧ z.cap = cap ∧ z.l = l ∧ z.co = m ∧ z.c = m + 1 ∧ z.cs = m + 2
  hi : m + 3 ≤ z.f ∧ m + 3 ≤ z.b1 ∧ m + 3 ≤ z.b2
  lt : z.f < w.heap.size ∧ z.b1 < w.heap.size ∧ z.b2 < w.heap.size ∧ m + 3 ≤ w.heap.size
  inv : Inv l Al s (updI (fun _ => Inf) s 0) (upd (fun _ => none) s (some 0)) 0 (fun _ => False)
  m1 : bf1 < m
  m2 : bf2 < m
  m3 : bb < m
  m0 : w0.heap.size ≤ m
theorem begin_one {n bb bf1 bf2 cap s : Nat} {a : Option Addr} {l : List A} {w0 w w' : World} (p : Pre n bb bf1 bf2 w0 w) (g : RG n l) (hr : Arcs w0 a l) (hs : s < n) (hb' : Below (w.heap.size + 3) (boxes w n bf1 bf2) w') :
    Calls Try.prog 17 #[.agg #[.int .i64 n, .slice a l.length cap], .int .i64 s, .func (.func 15) #[] #[.pointer (some ⟨w.heap.size + 2, 0, none⟩), .pointer (some ⟨bb, 0, none⟩), .pointer (some ⟨w.heap.size, 0, none⟩)]] w' fun e w3 => ∃ z : Sd, e = .returned (.pointer (some ⟨z.f, 0, none⟩)) ∧ One n bb bf1 bf2 w0 w.heap.size z s a cap l w3 := by
  have z1 := p.t1.lt
  have z2 := p.t2.lt
  have z3 := lt_of_block p.be
  have q0 := p.b.size
  have q1 := p.l1
  have q2 := p.l2
  have q3 := p.l3
  have q4 := p.n1
  have q5 := p.n2
  have q6 := p.n3
  have hbb := boxes_below w n bf1 bf2
  have bk : ∀ {k : Nat} {o : Obj}, w.heap[k]? = some o → w'.heap[k]? = some o := fun {k o} e => by
    have h1 := lt_of_block e
    exact (hb'.block k (by omega)).trans ((hbb.block k h1).trans e)
  have hbw : Below w0.heap.size w0 w' := (p.b.trans (hbb.mono q0)).trans (hb'.mono (by omega))
  have hsz := hb'.size
  rw [boxes_size] at hsz
  have hR : R3 n (w.heap.size + 1) bf1 (w.heap.size + 2) w.heap.size bf2 bb w' (fun _ => Inf) (Inf, fun _ => Inf) :=
    ⟨⟨(hb'.block _ (by omega)).trans (boxes_c w n bf1 bf2), bk p.t1⟩, (hb'.block _ (by omega)).trans (boxes_cs w n bf1 bf2), (hb'.block _ (by omega)).trans (boxes_co w n bf1 bf2), bk p.t2, bk p.be, inf_rng, fun _ => inf_rng, fun _ => inf_rng⟩
  refine (begin_side (O := fun _ => False) (by omega) (by omega) (by omega) (by omega) (by omega) (by omega) (by omega) (by omega) (by omega) g hr hbw hs hR (by rintro k (rfl | rfl | rfl | rfl | rfl | rfl) <;> omega) (fun k hk => hk.elim)).mono ?_
  rintro e w3 ⟨f, b1, b2, h, rfl, hl, ⟨D, sr, r, hd, hb3, _⟩, hi⟩
  have e1 : minI Inf (sat 0 Inf) = Inf := by unfold minI sat Inf; simp
  have l1 : f < w3.heap.size := lt_of_block sr.hd
  have l2 : b1 < w3.heap.size := sr.t1.lt
  have l3 : b2 < w3.heap.size := sr.t2.lt
  refine ⟨⟨f, b1, b2, h, w.heap.size + 1, bf1, w.heap.size + 2, w.heap.size, a, cap, l⟩, rfl, ⟨⟨D, _, sr, r, fun k hk => ⟨(hd k hk).1, (hd k hk).2.2⟩, ?_, e1⟩, hb3, ⟨rfl, rfl, rfl, rfl, rfl, rfl, rfl⟩, ?_, ?_, hi, z1, z2, z3, q0⟩⟩
  · show BJ l s 0 _ _ (minI Inf (sat 0 Inf))
    rw [e1]
    refine ⟨inf_rng.1, Int.le_refl _, fun h => absurd h (by omega), fun v => ?_⟩
    have : (0 : Int) ≤ updI (fun _ => Inf) s 0 v := hi.lo v
    exact sat_ge (by omega) (Int.le_refl _)
  · show w.heap.size + 3 ≤ f ∧ w.heap.size + 3 ≤ b1 ∧ w.heap.size + 3 ≤ b2
    omega
  · show f < w3.heap.size ∧ b1 < w3.heap.size ∧ b2 < w3.heap.size ∧ w.heap.size + 3 ≤ w3.heap.size
    omega
/-- Both have begun. -/
theorem begin_two {n bb bf1 bf2 cap cap' s t m : Nat} {a a' : Option Addr} {l : List A} {w0 w w' : World} {z : Sd} (o : One n bb bf1 bf2 w0 m z s a cap l w) (n1 : bf1 ≠ bf2) (n2 : bb ≠ bf1) (n3 : bb ≠ bf2) (k1 : w0.heap.size ≤ bf1) (k2 : w0.heap.size ≤ bf2) (k3 : w0.heap.size ≤ bb) (g : RG n l) (hr : Arcs w0 a l) (hr' : Arcs w0 a' (turned l)) (ht : t < n) (hb' : Below (w.heap.size + 3) (boxes w n bf2 bf1) w') :
    Calls Try.prog 17 #[.agg #[.int .i64 n, .slice a' (turned l).length cap'], .int .i64 t, .func (.func 15) #[] #[.pointer (some ⟨w.heap.size + 2, 0, none⟩), .pointer (some ⟨bb, 0, none⟩), .pointer (some ⟨w.heap.size, 0, none⟩)]] w' fun e w3 => ∃ y : Sd, e = .returned (.pointer (some ⟨y.f, 0, none⟩)) ∧ z.l = l ∧ y.l = turned l ∧ Apart n bb w0 z y ∧ Apart n bb w0 y z ∧ ∃ F T G U best, Two n bb w0 z y w3 F T G U best ∧ BI n l s t F T G U best ((n - dn F T n) + (n - dn G U n)) := by
  obtain ⟨⟨D, best, sr, r, hd, hbj, hbe⟩, hb, he, hi, hlt, hinv, m1, m2, m3, m0⟩ := o
  obtain ⟨f1, b11, b12, h1, c1, bfz, cs1, co1, az, capz, lz⟩ := z
  obtain ⟨e1, e2, e3, e4, e5, e6, e7⟩ := he
  dsimp only at e1 e2 e3 e4 e5 e6 e7 hi hlt
  subst e1 e2 e3 e4 e6 e7 hbe
  have q0 := hb.size
  have hbb := boxes_below w n bf2 bfz
  have bk : ∀ {k : Nat} {o : Obj}, w.heap[k]? = some o → w'.heap[k]? = some o := fun {k o} e => by
    have h1 := lt_of_block e
    exact (hb'.block k (by omega)).trans ((hbb.block k h1).trans e)
  have hbw : Below w0.heap.size w0 w' := (hb.trans (hbb.mono q0)).trans (hb'.mono (by omega))
  have hsz := hb'.size
  rw [boxes_size] at hsz
  obtain ⟨⟨r1, r2⟩, r3, r4, r5, r6, r7, r8, r9⟩ := r
  dsimp only at r1 r2 r3 r4 r5 r6
  have hR : R3 n (w.heap.size + 1) bf2 (w.heap.size + 2) w.heap.size bfz bb w' (fun _ => Inf) (Inf, updI (fun _ => Inf) s 0) :=
    ⟨⟨(hb'.block _ (by omega)).trans (boxes_c w n bf2 bfz), bk r5⟩, (hb'.block _ (by omega)).trans (boxes_cs w n bf2 bfz), (hb'.block _ (by omega)).trans (boxes_co w n bf2 bfz), bk r2, bk r6, inf_rng, r9, fun _ => inf_rng⟩
  have hDlt := sr.hp.lt
  refine (begin_side (O := fun k => (Sd.mk f1 b11 b12 h1 (m + 1) bfz (m + 2) co1 az capz lz).P k ∨ D k) (by omega) (by omega) (by omega) (by omega) (by omega) (by omega) (by omega) (by omega) (by omega) (turned_rg g) hr' hbw ht hR (by rintro k (rfl | rfl | rfl | rfl | rfl | rfl) <;> omega) ?_).mono ?_
  · rintro k ((rfl | rfl | rfl | rfl | rfl | rfl) | hk)
    · exact ⟨by omega, by rintro (e | e | e | e | e | e) <;> omega⟩
    · exact ⟨by omega, by rintro (e | e | e | e | e | e) <;> omega⟩
    · exact ⟨by omega, by rintro (e | e | e | e | e | e) <;> omega⟩
    · exact ⟨by show m + 1 < _; omega, by rintro (e | e | e | e | e | e) <;> (try dsimp only at e) <;> omega⟩
    · exact ⟨by show m + 2 < _; omega, by rintro (e | e | e | e | e | e) <;> (try dsimp only at e) <;> omega⟩
    · exact ⟨by omega, by rintro (e | e | e | e | e | e) <;> (try dsimp only at e) <;> omega⟩
    · have h5 := hDlt k hk
      have h6 := (hd k hk).1
      refine ⟨by omega, ?_⟩
      rintro (e | e | e | e | e | e)
      · omega
      · exact h6 (Or.inr (Or.inr (Or.inr (Or.inr (Or.inl e)))))
      · omega
      · omega
      · exact h6 (Or.inr (Or.inl e))
      · exact h6 (Or.inr (Or.inr (Or.inr (Or.inr (Or.inr e)))))
  rintro e w3 ⟨f, b1, b2, h, rfl, hl, sg, hi3⟩
  have hl3 : f < w3.heap.size ∧ b1 < w3.heap.size ∧ b2 < w3.heap.size := by
    obtain ⟨D', sr', _⟩ := sg
    exact ⟨lt_of_block sr'.hd, sr'.t1.lt, sr'.t2.lt⟩
  refine ⟨⟨f, b1, b2, h, w.heap.size + 1, bf2, w.heap.size + 2, w.heap.size, a', cap', turned lz⟩, rfl, rfl, rfl, ?_, ?_, _, _, _, _, _, (two_of (D2 := D) (wO := w') ?_ ?_ ?_ ?_ ?_ sg).swap, ⟨rfl, ⟨0, hinv⟩, ⟨0, hi3⟩, ?_⟩⟩
  · refine ⟨?_, ?_, ?_, ?_, ?_, ?_, hr⟩
    · rintro k (rfl | rfl | rfl | rfl | rfl | rfl) (e | e | e | e | e | e) <;> (try dsimp only at e) <;> omega
    · rintro (e | e | e | e | e | e) <;> (try dsimp only at e) <;> omega
    · rintro (e | e | e | e | e | e) <;> (try dsimp only at e) <;> omega
    · rintro (e | e | e | e | e | e) <;> (try dsimp only at e) <;> omega
    · rintro k (rfl | rfl | rfl | rfl | rfl | rfl) <;> (try dsimp only) <;> omega
    · exact fun3 n (m + 1) bfz (m + 2) co1 bf2 bb (by omega) (by omega) (by omega) (by omega) (by omega) (by omega) (by omega) (by omega) (by omega)
  · refine ⟨?_, ?_, ?_, ?_, ?_, ?_, hr'⟩
    · rintro k (rfl | rfl | rfl | rfl | rfl | rfl) (e | e | e | e | e | e) <;> (try dsimp only at e) <;> omega
    · rintro (e | e | e | e | e | e) <;> (try dsimp only at e) <;> omega
    · rintro (e | e | e | e | e | e) <;> (try dsimp only at e) <;> omega
    · rintro (e | e | e | e | e | e) <;> (try dsimp only at e) <;> omega
    · rintro k (rfl | rfl | rfl | rfl | rfl | rfl) <;> (try dsimp only) <;> omega
    · exact fun3 n (w.heap.size + 1) bf2 (w.heap.size + 2) w.heap.size bfz bb (by omega) (by omega) (by omega) (by omega) (by omega) (by omega) (by omega) (by omega) (by omega)
  · exact Sr.same sr (by dsimp only; exact (hb'.block _ (by omega)).trans (hbb.block _ (by omega))) (by dsimp only; exact (hb'.block _ (by omega)).trans (hbb.block _ (by omega))) (by dsimp only; exact (hb'.block _ (by omega)).trans (hbb.block _ (by omega))) (fun k hk => by have := hDlt k hk; exact (hb'.block _ (by omega)).trans (hbb.block _ (by omega)))
  · exact bk r1
  · exact bk r3
  · exact bk r4
  · intro k hk
    have h5 := hDlt k hk
    refine ⟨(hd k hk).1, ?_, (hd k hk).2⟩
    rintro (e | e | e | e | e | e) <;> (try dsimp only at e) <;> omega
  · have e1 := BJ.behind (t := t) (v := t) (d := 0) (l := lz) (s := s) (F := updI (fun _ => Inf) s 0) (G := fun _ => Inf) (best := Inf) ⟨hbj.lo, hbj.hi, fun h => absurd h (by omega), hbj.le⟩ (Wk.nil rfl) hinv.wk (Int.le_refl _) hinv.lo
    exact e1
end Go.Proofs.Ytomlmphdnoempab
