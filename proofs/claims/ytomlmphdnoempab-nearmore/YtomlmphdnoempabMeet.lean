/-
  Contract of near.Between's function that makes the functions; near.Walk and near.Between, refused.
-/
import Derived.Test.YtomlmphdnoempabPair
import Derived.Test.YtomlmphdnoempabWalkC
namespace Go.Proofs.Ytomlmphdnoempab
open Go.RowKit
open Hp (HR HRto Fr upd upd_self upd_ne TopIs)
set_option maxHeartbeats 400000 in
theorem meet_any (far other : Addr) (n m n' m' bb : Nat) (w : World) :
    Calls Try.prog 13 #[.slice (some far) n m, .slice (some other) n' m', .pointer (some ⟨bb, 0, none⟩)] w fun e w' => e = .returned (.func (.func 15) #[] #[.pointer (some ⟨w.heap.size + 2, 0, none⟩), .pointer (some ⟨bb, 0, none⟩), .pointer (some ⟨w.heap.size, 0, none⟩)]) ∧
      w' = ((w.alloc (.cells #[.slice (some other) n' m'] 34)).alloc (.cells #[.slice (some far) n m] 34)).alloc (.cells #[.func (.func 26) #[] #[.pointer (some ⟨w.heap.size + 1, 0, none⟩)]] 48) := by
  have HS := Lib.hid (shorter_any far n m (w.alloc (.cells #[.slice (some other) n' m'] 34)))
  rw [World.size_alloc] at HS
  go_enter Try.func13, Try.ntmps13
  go_wp2_with fail
  refine HS.out.mono ?_
  rintro e w1 ⟨rfl, rfl⟩
  go_wp2_with fail
  go_ret
  exact ⟨rfl, rfl⟩
set_option maxHeartbeats 800000 in
theorem walk_no (N : Int) (a : Option Addr) (l : List A) (cap : Nat) (s t : Int) (w : World) (hl : l.length ≤ 9223372036854775807) (hE : nearE N l [s, t] ≠ 0) (hr : Arcs w a l) :
    Calls Try.prog 7 #[.agg #[.int .i64 N, .slice a l.length cap], .int .i64 s, .int .i64 t] w fun e w' => e = .returned (.tuple #[.slice none 0 0, .int .u64 0, .int .i64 (nearE N l [s, t])]) ∧ Below w.heap.size w w' := by
  have hb0 : Below w.heap.size w ((w.alloc (.cells #[.int .i64 N, .slice a l.length cap] 24)).alloc (.cells #[.int .i64 s, .int .i64 t] 3)) := ((Below.refl _ _).alloc (Nat.le_refl _) _).alloc (by simp) _
  have hi := two_int (w.alloc (.cells #[.int .i64 N, .slice a l.length cap] 24)) s t
  rw [World.size_alloc] at hi
  have HCK := Lib.hid (ncheck_any N a l cap _ [s, t] 2 _ hl (by simp) (hr.on hb0) hi)
  have hE' : (nearE N l [s, t] == 0) = false := beq_eq_false_iff_ne.2 hE
  generalize nearE N l [s, t] = E at *
  clear hi hE hr
  go_enter Try.func7, Try.ntmps7
  go_wp2_with fail
  refine HCK.out.mono ?_
  rintro e w1 ⟨rfl, hb1⟩
  have b1 : Below w.heap.size w w1 := hb0.trans (hb1.mono hb0.size)
  go_wp2_with fail
  go_ret3
  exact ⟨rfl, b1⟩
set_option maxHeartbeats 800000 in
theorem between_no (N : Int) (a : Option Addr) (l : List A) (cap : Nat) (s t : Int) (w : World) (hl : l.length ≤ 9223372036854775807) (hE : nearE N l [s, t] ≠ 0) (hr : Arcs w a l) :
    Calls Try.prog 6 #[.agg #[.int .i64 N, .slice a l.length cap], .int .i64 s, .int .i64 t] w fun e w' => e = .returned (.tuple #[.int .u64 0, .int .i64 (nearE N l [s, t])]) ∧ Below w.heap.size w w' := by
  have hb0 : Below w.heap.size w ((w.alloc (.cells #[.int .i64 N, .slice a l.length cap] 24)).alloc (.cells #[.int .i64 s, .int .i64 t] 3)) := ((Below.refl _ _).alloc (Nat.le_refl _) _).alloc (by simp) _
  have hi := two_int (w.alloc (.cells #[.int .i64 N, .slice a l.length cap] 24)) s t
  rw [World.size_alloc] at hi
  have HCK := Lib.hid (ncheck_any N a l cap _ [s, t] 2 _ hl (by simp) (hr.on hb0) hi)
  have hE' : (nearE N l [s, t] == 0) = false := beq_eq_false_iff_ne.2 hE
  generalize nearE N l [s, t] = E at *
  clear hi hE hr
  go_enter Try.func6, Try.ntmps6
  go_wp2_with fail
  refine HCK.out.mono ?_
  rintro e w1 ⟨rfl, hb1⟩
  have b1 : Below w.heap.size w w1 := hb0.trans (hb1.mono hb0.size)
  go_wp2_with fail
  go_ret2
  exact ⟨rfl, b1⟩
theorem NearIs.key_of {T : Nat → Option Int} {q : Int} (h : NearIs T q) (hq : q < Inf) : ∃ u k, T u = some k := by
  rcases h with ⟨u, h, _⟩ | ⟨rfl, _⟩
  · exact ⟨u, q, h⟩
  · omega
/-- What holds while both searches go on. -/
structure BI (n : Nat) (l : List A) (s t : Nat) (F : Nat → Int) (T : Nat → Option Int) (G : Nat → Int) (U : Nat → Option Int) (best : Int) (gk : Nat) : Prop where
  gk : gk = (n - dn F T n) + (n - dn G U n)
  inv : ∃ K, Inv l Al s F T K (fun _ => False)
  inv' : ∃ K, Inv (turned l) Al t G U K (fun _ => False)
  bj : BJ l s t F G best
theorem near_rng {l : List A} {s : Nat} {F : Nat → Int} {T : Nat → Option Int} {K : Nat} {q : Int} (hi : Inv l Al s F T K (fun _ => False)) (h : NearIs T q) : 0 ≤ q ∧ q ≤ Inf := by
  rcases h with ⟨u, h, _⟩ | ⟨rfl, _⟩
  · have h1 := hi.key u q h
    have h2 := hi.lo u
    omega
  · unfold Inf; omega
theorem near_all {T : Nat → Option Int} {q : Int} (h : NearIs T q) : ∀ u k, T u = some k → q ≤ k := near_least h (Int.le_refl _)
theorem BI.done {n : Nat} {l : List A} {s t : Nat} {F G : Nat → Int} {T U : Nat → Option Int} {best a b : Int} {gk : Nat} (h : BI n l s t F T G U best gk) (hw : ∀ x ∈ l, 0 ≤ x.w) (ha : NearIs T a) (hb : NearIs U b) (he : ¬ sat a b < best) : IsT l s t best := by
  obtain ⟨K, hi⟩ := h.inv
  obtain ⟨M, hj⟩ := h.inv'
  exact ⟨h.bj.lo, h.bj.hi, h.bj.wk, fun e he' => meet_done hi hj hw h.bj.le (near_all ha) (near_all hb) (near_rng hi ha).2 (by omega) he'⟩
end Go.Proofs.Ytomlmphdnoempab
