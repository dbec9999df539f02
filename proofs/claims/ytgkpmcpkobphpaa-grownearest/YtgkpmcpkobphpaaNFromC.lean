/-
  Contract of near.From.
-/
import Derived.Test.YtgkpmcpkobphpaaNFrom
namespace Go.Proofs.Ytgkpmcpkobphpaa.N5
open Go.RowKit
open Hp (HR HRto Fr upd upd_self upd_ne TopIs)
theorem rg_of {N : Int} {l : List A} (h : chkE N l = 0) (hw : ∀ x ∈ l, 0 ≤ x.w ∧ x.w < 4294967296) : ∃ n : Nat, N = n ∧ RG n l := by
  obtain ⟨h1, h2, h3, h4⟩ := chk_zero h
  refine ⟨N.toNat, by omega, by omega, by omega, h3, fun x hx => ?_, hw⟩
  have := h4 x hx
  omega
theorem SG.below {w0 : World} {f : Nat} {a : Option Addr} {cap : Nat} {l : List A} {n b1 b2 h : Nat} {fn : Value} {X : Type} {R : World → (Nat → Int) → X → Prop} {Q : Nat → Prop} {w : World} {F : Nat → Int} {T : Nat → Option Int} {x : X} (h : SG w0 f a cap l n b1 b2 h fn R Q w F T x) : Below w0.heap.size w0 w := by
  obtain ⟨_, _, _, _, hb⟩ := h
  exact hb
theorem SG.tab {w0 : World} {f : Nat} {a : Option Addr} {cap : Nat} {l : List A} {n b1 b2 h : Nat} {fn : Value} {X : Type} {R : World → (Nat → Int) → X → Prop} {Q : Nat → Prop} {w : World} {F : Nat → Int} {T : Nat → Option Int} {x : X} (h : SG w0 f a cap l n b1 b2 h fn R Q w F T x) : R w F x := by
  obtain ⟨_, _, hr, _, _⟩ := h
  exact hr
theorem far_of {n K : Nat} {l : List A} {ok : Nat → Bool} {s : Nat} {F : Nat → Int} {T : Nat → Option Int} (g : RG n l) (hi : Inv l ok s F T K (fun _ => False)) (hK : K ≤ dn F T n) (ht : ∀ u, T u = none) : IsD l ok s F ∧ ∀ v, F v < Inf → F v ≤ n * 4294967296 := by
  refine ⟨hi.isD (fun x hx => (g.wt x hx).1) ht, fun v hv => ?_⟩
  have h1 := hi.bnd v hv
  have h2 := dn_le F T n
  have h3 : (K : Int) * 4294967296 ≤ n * 4294967296 := Int.mul_le_mul_of_nonneg_right (by omega) (by omega)
  omega
/-- Distances in a list of their own. -/
def FarIs (w w' : World) (bf n : Nat) (l : List A) (ok : Nat → Bool) (s : Nat) : Prop :=
  ∃ F, Tb w' bf n 47 .u64 F ∧ IsD l ok s F ∧ (∀ v, F v < Inf → F v ≤ n * 4294967296) ∧ w.heap.size ≤ bf ∧ Below w.heap.size w w'
theorem one_int (w : World) (x : Int) : Ints (w.alloc (.cells #[.int .i64 x] 3)) (some ⟨w.heap.size, 0, none⟩) [x] := by
  refine Or.inr ⟨w.heap.size, 0, rfl, by simp, fun j hj => ?_⟩
  match j, hj with
  | 0, _ => exact (one_cell (heap_top w _)).1
theorem two_int (w : World) (x y : Int) : Ints (w.alloc (.cells #[.int .i64 x, .int .i64 y] 3)) (some ⟨w.heap.size, 0, none⟩) [x, y] := by
  refine Or.inr ⟨w.heap.size, 0, rfl, by simp, fun j hj => ?_⟩
  match j, hj with
  | 0, _ => exact (two_cells (heap_top w _)).1.1
  | 1, _ => exact (two_cells (heap_top w _)).1.2
set_option maxHeartbeats 1600000 in
set_option maxRecDepth 100000 in
theorem from_ok (n : Nat) (a : Option Addr) (l : List A) (cap : Nat) (s : Nat) (w : World) (g : RG n l) (hs : s < n) (hE : nearE n l [(s : Int)] = 0) (hr : Arcs w a l) :
    Calls Try.prog 24 #[.agg #[.int .i64 n, .slice a l.length cap], .int .i64 s] w fun e w' => ∃ bf, e = .returned (.tuple #[.slice (some ⟨bf, 0, none⟩) n n, .int .i64 0]) ∧ FarIs w w' bf n l (fun _ => true) s := by
  have hnb := g.nb
  have hlb := g.lb
  have hb0 : Below w.heap.size w ((w.alloc (.cells #[.int .i64 n, .slice a l.length cap] 24)).alloc (.cells #[.int .i64 s] 3)) := ((Below.refl _ _).alloc (Nat.le_refl _) _).alloc (by simp) _
  have hg : ((w.alloc (.cells #[.int .i64 n, .slice a l.length cap] 24)).alloc (.cells #[.int .i64 s] 3)).heap[w.heap.size]? = some (.cells #[.int .i64 n, .slice a l.length cap] 24) := (Below.heap_alloc _ _ _ (by simp)).trans (heap_top w _)
  have hi := one_int (w.alloc (.cells #[.int .i64 n, .slice a l.length cap] 24)) s
  rw [World.size_alloc] at hi
  have HCK := Lib.hid (ncheck_any n a l cap _ [(s : Int)] 1 _ (by omega) (by simp) (hr.on hb0) hi)
  rw [hE] at HCK
  have HG := Lib.hid g
  have HR := Lib.hid hr
  clear g hr hE hi
  go_enter Try.func24, Try.ntmps24
  go_wp2_with fail
  refine HCK.out.mono ?_
  rintro e w1 ⟨rfl, hb1⟩
  have hg1 := (hb1.block _ (lt_of_block hg)).trans hg
  have b1 : Below w.heap.size w w1 := hb0.trans (hb1.mono hb0.size)
  have s1 := lt_of_block hg1
  clear hg hb0 hb1 HCK
  obtain ⟨⟨g0, g1⟩, -⟩ := two_cells hg1
  go_wp2_with fail
  refine (unreached_any n (by omega) w1).mono ?_
  rintro e w2 ⟨bf, rfl, htf, hbf, hb2⟩
  have G0 := Lib.hid g0
  have G1 := Lib.hid g1
  have g0' := (hb2.cell (p := ⟨w.heap.size, 0, none⟩) s1).trans g0
  have g1' := (hb2.cell (p := ⟨w.heap.size, 1, none⟩) s1).trans g1
  clear g0 g1
  have B1 := Lib.hid b1
  have HT := Lib.hid htf
  have HB2 := Lib.hid hb2
  have HSH := Lib.hid (fun w' => shorter_any ⟨bf, 0, none⟩ n n w')
  have hAR := HR.out.on b1
  have hb3 : Below w1.heap.size w1 (w2.alloc (.cells #[.slice (some ⟨bf, 0, none⟩) n n] 43)) := hb2.alloc hb2.size _
  have HST := Lib.hid (fun (w' : World) (hb : Below (w2.alloc (.cells #[.slice (some ⟨bf, 0, none⟩) n n] 43)).heap.size (w2.alloc (.cells #[.slice (some ⟨bf, 0, none⟩) n n] 43)) w') => start_any (w0 := w1) (w := w') (a := a) (cap := cap) (s := s) (x0 := ()) (awalk58 _) (fun1 n w2.heap.size bf (by have := htf.lt; omega)) HG.out hAR (hb3.trans (hb.mono hb3.size)) hs
    ⟨(hb.block _ (by simp)).trans (heap_top w2 _), (htf.alloc _).same (hb.block _ (htf.alloc _).lt)⟩ (by rintro k (rfl | rfl); exact hb2.size; exact hbf))
  clear htf hb2 hAR hb3
  go_wp2_with fail
  go_region_held3 (fun w' => w'.cell? ⟨w.heap.size, 0, none⟩ = some (.int .i64 n) ∧ w'.cell? ⟨w.heap.size, 1, none⟩ = some (.slice a l.length cap)) (go_keep) (first
    | (go_at_call 41; refine (HSH.out _).mono ?_; rintro e w3 ⟨rfl, rfl⟩)
    | (go_at_call 40; refine (HST.out _ (by first | exact Below.refl _ _ | exact (Below.refl _ _).drew | exact below_drewN _ _ _)).mono ?_; rintro e w4 ⟨f, b1, b2, h, rfl, sy, F, T, x, sg, hiv, hor⟩; have y0 := (sg.below.cell (p := ⟨w.heap.size, 0, none⟩) s1).trans G0.out; have y1 := (sg.below.cell (p := ⟨w.heap.size, 1, none⟩) s1).trans G1.out)
    | (go_at_call 42; refine (goAll_any sy HG.out s (fun _ _ _ => True) (fun _ _ _ _ _ _ _ _ => trivial) (fun _ _ _ _ _ _ _ _ _ _ _ _ _ _ _ _ => trivial) sg ⟨0, Nat.zero_le _, hiv⟩ trivial).mono ?_; rintro e w5 ⟨rfl, F', T', x', sg', ⟨K, hK, hiv'⟩, _, hT⟩; have y2 := (sg'.below.cell (p := ⟨w.heap.size, 0, none⟩) s1).trans G0.out; have y3 := (sg'.below.cell (p := ⟨w.heap.size, 1, none⟩) s1).trans G1.out))
  have HFA := Lib.hid (far_of HG.out hiv' hK hT)
  have HTA := Lib.hid sg'.tab.2
  have HBB := Lib.hid (B1.out.trans (sg'.below.mono B1.out.size))
  have HBF := Lib.hid (Nat.le_trans B1.out.size hbf)
  clear sg sg' hiv hiv' hor hT hK sy y0 y1 y2 y3
  go_wp2_with fail
  go_ret2
  exact ⟨bf, rfl, F', HTA.out, HFA.out.1, HFA.out.2, HBF.out, HBB.out⟩
set_option maxHeartbeats 800000 in
theorem from_no (N : Int) (a : Option Addr) (l : List A) (cap : Nat) (s : Int) (w : World) (hl : l.length ≤ 9223372036854775807) (hE : nearE N l [s] ≠ 0) (hr : Arcs w a l) :
    Calls Try.prog 24 #[.agg #[.int .i64 N, .slice a l.length cap], .int .i64 s] w fun e w' => e = .returned (.tuple #[.slice none 0 0, .int .i64 (nearE N l [s])]) ∧ Below w.heap.size w w' := by
  have hb0 : Below w.heap.size w ((w.alloc (.cells #[.int .i64 N, .slice a l.length cap] 24)).alloc (.cells #[.int .i64 s] 3)) := ((Below.refl _ _).alloc (Nat.le_refl _) _).alloc (by simp) _
  have hi := one_int (w.alloc (.cells #[.int .i64 N, .slice a l.length cap] 24)) s
  rw [World.size_alloc] at hi
  have HCK := Lib.hid (ncheck_any N a l cap _ [s] 1 _ hl (by simp) (hr.on hb0) hi)
  have hE' : (nearE N l [s] == 0) = false := beq_eq_false_iff_ne.2 hE
  generalize nearE N l [s] = E at *
  clear hi hE hr
  go_enter Try.func24, Try.ntmps24
  go_wp2_with fail
  refine HCK.out.mono ?_
  rintro e w1 ⟨rfl, hb1⟩
  have b1 : Below w.heap.size w w1 := hb0.trans (hb1.mono hb0.size)
  go_wp2_with fail
  go_ret2
  exact ⟨rfl, b1⟩
end Go.Proofs.Ytgkpmcpkobphpaa.N5
