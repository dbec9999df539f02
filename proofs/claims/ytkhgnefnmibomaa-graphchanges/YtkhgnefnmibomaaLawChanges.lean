/-
  The law GraphChanges: a graph's reverse, and what it is with other weights, are as the reference has them.
-/
import Derived.Test.YtkhgnefnmibomaaRRev
import Derived.Test.YtkhgnefnmibomaaRWeigh
import Derived.Test.YtkhgnefnmibomaaRChange
import Derived.Test.YtkhgnefnmibomaaInduced
namespace Go.Proofs.Ytkhgnefnmibomaa
open Go.RowKit
theorem Rd.of {g : Nat} {w w' : World} (h : Below w.heap.size w w') : Rd g w w' := ⟨h.os, h.tape, h.output, h.size, fun k hk _ => h.block k hk⟩
set_option maxHeartbeats 800000 in
theorem spoilGraph_rd (N : Int) (g n m B : Nat) (xs : List Value) (w : World) (hn : n ≤ 9223372036854775807) (hown : w.ownsRow B 53 3 (.slice (some ⟨g, 0, none⟩) n n) n xs) :
    Calls Try.prog 31 #[.agg #[.int .i64 N, .slice (some ⟨g, 0, none⟩) m n]] w fun e w' => e = .returned (.tuple #[]) ∧ Rd g w w' := by
  have hgs : g < w.heap.size := (hown.lt g rfl).2
  have hb0 : Rd g w (w.alloc (.cells #[.int .i64 N, .slice (some ⟨g, 0, none⟩) m n] 24)) := Rd.of ((Below.refl _ _).alloc (Nat.le_refl _) _)
  have hown0 := hown.alloc (.cells #[.int .i64 N, .slice (some ⟨g, 0, none⟩) m n] 24)
  go_enter Try.func31, Try.ntmps31
  go_wp2_with fail
  go_loopw [3] (fun i wr => ∃ (k : Nat) (xs : List Value), k ≤ n ∧ i = .int .i64 k ∧ wr.ownsRow B 53 3 (.slice (some ⟨g, 0, none⟩) n n) n xs ∧ Rd g w wr) (fun i _ => n - (intOf i).toNat)
  case atStart => exact ⟨0, xs, Nat.zero_le _, rfl, hown0, hb0⟩
  case round =>
    obtain ⟨k, ys, hk, rfl, ho, hbel⟩ := hrel
    by_cases hlt : k < n
    · have hyl : k * 3 + 2 < ys.length := by have := ho.1; omega
      have c0 : wr.cell? ⟨g, k * 3, none⟩ = some (ys[k * 3]'(by omega)) := (ho.cellAt (k * 3) (by omega)).trans (List.getElem?_eq_getElem (by omega))
      have c1 : wr.cell? ⟨g, k * 3 + 1, none⟩ = some (ys[k * 3 + 1]'(by omega)) := (ho.cellAt (k * 3 + 1) (by omega)).trans (List.getElem?_eq_getElem (by omega))
      have c2 : wr.cell? ⟨g, k * 3 + 2, none⟩ = some (ys[k * 3 + 2]'(by omega)) := (ho.cellAt (k * 3 + 2) (by omega)).trans (List.getElem?_eq_getElem (by omega))
      have f0 : wr.frozen? ⟨g, k * 3, none⟩ = false := ho.frozenAt _
      have f1 : wr.frozen? ⟨g, k * 3 + 1, none⟩ = false := ho.frozenAt _
      have f2 : wr.frozen? ⟨g, k * 3 + 2, none⟩ = false := ho.frozenAt _
      have HS := Lib.hid (((ho.stored (k * 3) (.int .i64 (-3))).1.stored (k * 3 + 1) (.int .i64 (-4))).1.stored (k * 3 + 2) (.int .u32 5))
      generalize ys[k * 3]'(by omega) = y0 at c0
      generalize ys[k * 3 + 1]'(by omega) = y1 at c1
      generalize ys[k * 3 + 2]'(by omega) = y2 at c2
      go_wp2_with fail
      exact ⟨⟨k + 1, _, by omega, by go_num, HS.out.1, hbel.trans ((Rd.set _ _ _).trans ((Rd.set _ _ _).trans (Rd.set _ _ _)))⟩, by simp [intOf]; omega⟩
    · go_wp2_with fail
      go_end0
      exact ⟨rfl, hbel⟩
/-- What spoiling leaves: all below B, what is of another type, and what lies from U on. -/
def Spoilt (e' : TypeId) (B U : Nat) (w w' : World) : Prop := Below B w w' ∧ (∀ (k : Nat) (o : Obj), w.heap[k]? = some o → (∀ cur, o ≠ Obj.cells cur e' (0, 0)) → w'.heap[k]? = some o) ∧ ∀ k, U ≤ k → k < w.heap.size → w'.heap[k]? = w.heap[k]?
theorem spoilGraph_fin (N : Int) (a : Option Addr) (c B U : Nat) (l : List A) (w : World) (hown : OwnA w B a c l) (hB : B ≤ w.heap.size) (hU : ∀ g, a = some ⟨g, 0, none⟩ → g < U) :
    Calls Try.prog 31 #[.agg #[.int .i64 N, .slice a l.length c]] w fun e w' => e = .returned (.tuple #[]) ∧ Spoilt 53 B U w w' := by
  rcases hown.2 with ⟨h', h0⟩ | ⟨g, c', cur, h', hb, hg, hnc, hm, _⟩
  · injection h' with e1 e2 e3
    subst e1 e3
    rw [h0]
    refine (spoilGraph_none N w).mono ?_
    rintro e w' ⟨rfl, hb⟩
    exact ⟨rfl, hb.mono hB, fun k o ho _ => (hb.block k (lt_of_block ho)).trans ho, fun k _ hk => hb.block k hk⟩
  · injection h' with e1 e2 e3
    subst e1 e3
    obtain ⟨ys, hy⟩ := own_wide hown
    refine (spoilGraph_rd N g c l.length B ys w (by unfold maxLen at hm; omega) hy).mono ?_
    rintro e w' ⟨rfl, hr⟩
    have hgU := hU g rfl
    refine ⟨rfl, hr.below (Below.refl _ _) hb hB, fun k o ho ht => ?_, fun k h1 h2 => hr.block k h2 (by omega)⟩
    refine (hr.block k (lt_of_block ho) ?_).trans ho
    intro e
    subst e
    rw [hg] at ho
    exact ht cur (Option.some.inj ho).symm
theorem not53 {c : Array Value} : ∀ cur, Obj.cells c 24 (0, 0) ≠ .cells cur 53 (0, 0) := by
  intro cur e
  injection e with e1 e2 e3
  cases e2
theorem OwnA.lt {w : World} {B : Nat} {a : Option Addr} {c : Nat} {l : List A} (h : OwnA w B a c l) : ∀ g, a = .some ⟨g, 0, none⟩ → g < w.heap.size := by
  intro g e
  subst e
  exact (World.ownsRow.lt h g rfl).2
theorem OwnA.spoilt {w w' : World} {B B' U : Nat} {a : Option Addr} {c : Nat} {l : List A} (h : OwnA w B a c l) (hs : Spoilt 53 B' U w w') (hU : U ≤ B) : OwnA w' B a c l := own_keep h (fun k h1 h2 _ => hs.2.2 k (by omega) h2)

set_option maxHeartbeats 3200000 in
set_option maxRecDepth 100000 in
theorem law_changes (N : Int) (a : Option Addr) (l : List A) (cap : Nat) (a1 : Option Addr) (ws : List Int) (cap1 : Nat) (a2 : Option Addr) (cs : List Cg) (cap2 : Nat) (w : World) (hlen : l.length * 24 ≤ 140737488351232) (hn : a = none → l = [] ∧ cap = 0) (hr : Arcs w a l) (_hws : ws.length * 4 ≤ 140737488351232) (hu : U32s w a1 ws) (hcs : cs.length * 16 ≤ 140737488351232) (hc : Cgs w a2 cs) :
    Calls Try.prog 4 #[.agg #[.int .i64 N, .slice a l.length cap], .slice a1 ws.length cap1, .slice a2 cs.length cap2] w fun e w' => e = .returned (.bool true) ∧ Below w.heap.size w w' := by
  have hl : l.length ≤ 9223372036854775807 := by omega
  have hb0 : Below w.heap.size w (w.alloc (.cells #[.int .i64 N, .slice a l.length cap] 24)) := (Below.refl _ _).alloc (Nat.le_refl _) _
  have HN := Lib.hid hn
  have HNG : Hid (∀ g : Nat, ∀ c : Nat, (some (⟨g, 0, none⟩ : Addr) = none → l = [] ∧ c = 0)) := fun g c h => by cases h
  clear hn
  have hG := heap_top w (.cells #[.int .i64 N, .slice a l.length cap] 24)
  have hr0 := hr.on hb0
  go_enter Try.func4, Try.ntmps4
  go_wp2_with fail
  refine (lend_any N a l cap _ hlen HN.out hr0).mono ?_
  rintro e w1 ⟨g0, c0, rfl, hc0, hcm0, hown0, hb1⟩
  have hS := still_own hown0
  have hSlt := hS.lt
  have hG1 := (hb1.block _ (by simp)).trans hG
  have b1 := bthen hb0 hb1 (by simp)
  have sG := lt_of_block hG1
  clear hown0 hb1 hb0 hr0 hG

  have hbI := (Below.refl w1.heap.size w1).alloc (Nat.le_refl _) (.cells #[.int .i64 N, .slice (some ⟨g0, 0, none⟩) l.length c0] 24)
  have hI := heap_top w1 (.cells #[.int .i64 N, .slice (some ⟨g0, 0, none⟩) l.length c0] 24)
  have hGW1 := (hbI.block _ sG).trans hG1
  have hSW1 := hS.on hbI
  have bW1 := bthen b1 hbI b1.size
  have sw1 : w.heap.size ≤ w1.heap.size := b1.size
  obtain ⟨⟨x0, x1⟩, _, _⟩ := two_cells hG1
  clear hbI hS b1 hG1
  generalize hW1 : w1.alloc (.cells #[.int .i64 N, .slice (some ⟨g0, 0, none⟩) l.length c0] 24) = W1 at *
  obtain ⟨⟨x2, x3⟩, _, _⟩ := two_cells hI
  obtain ⟨⟨x4, x5⟩, _, _⟩ := two_cells hGW1
  obtain ⟨NA, HNA⟩ := named (if chkE N l = 0 then N else 0)
  obtain ⟨lA, HLA⟩ := named (if chkE N l = 0 then turned l else [])
  obtain ⟨EA, HEA⟩ := named (chkE N l)
  obtain ⟨NC, HNC⟩ := named (if wghE N l ws.length = 0 then N else 0)
  obtain ⟨lC, HLC⟩ := named (if wghE N l ws.length = 0 then weighed l ws else [])
  obtain ⟨EC, HEC⟩ := named (wghE N l ws.length)
  obtain ⟨EX, HEX⟩ := named (cgE N l cs)
  obtain ⟨NX, HNX⟩ := named (if EX = 0 then N else 0)
  obtain ⟨lX, HLX⟩ := named (if EX = 0 then chg l cs else [])
  have hlA : lA.length ≤ 9223372036854775807 := by
    rw [← HLA.out]; split
    · rw [turned_len]; omega
    · simp
  have hlC : lC.length ≤ 9223372036854775807 := by
    rw [← HLC.out]; split
    · unfold weighed; rw [List.length_zipWith]; omega
    · simp
  have hlX : lX.length ≤ 9223372036854775807 := by
    rw [← HLX.out]; split
    · rw [chg_len]; omega
    · simp
  have hIW1 := hI
  clear hI
  have HCA := Lib.hid (reverse_any N (some ⟨g0, 0, none⟩) l c0 W1 hlen (HNG.out g0 c0) hSW1.arcs)
  rw [HNA.out, HLA.out, HEA.out] at HCA
  go_wp2_with fail
  refine HCA.out.mono ?_
  rintro e v2 ⟨aA, cA, rfl, hoA, _, hbv2⟩
  have hbA2 := (Below.refl v2.heap.size v2).alloc (Nat.le_refl _) (.cells #[.int .i64 NA, .slice aA lA.length cA] 24)
  have hb2 := bthen hbv2 hbA2 hbv2.size
  have sv2 := hbv2.size
  have su2 := hoA.lt
  have hqA2 := heap_top v2 (.cells #[.int .i64 NA, .slice aA lA.length cA] 24)
  have hoA2 := hoA.on hbA2
  have hGW2 := (hb2.block _ (lt_of_block hGW1)).trans hGW1
  have hIW2 := (hb2.block _ (lt_of_block hIW1)).trans hIW1
  have hSW2 := hSW1.on hb2
  have bW2 := bthen bW1 hb2 bW1.size
  have sW2 : v2.heap.size < (v2.alloc (.cells #[.int .i64 NA, .slice aA lA.length cA] 24)).heap.size := by simp
  obtain ⟨⟨y20, y21⟩, _, _⟩ := two_cells ((hbv2.block _ (lt_of_block hGW1)).trans hGW1)
  obtain ⟨⟨z20, z21⟩, _, _⟩ := two_cells ((hbv2.block _ (lt_of_block hIW1)).trans hIW1)
  clear hGW1 hIW1 hSW1 bW1 hbA2 hbv2 hb2 hoA HCA
  generalize hW2 : v2.alloc (.cells #[.int .i64 NA, .slice aA lA.length cA] 24) = W2 at *
  obtain ⟨⟨k20, k21⟩, _, _⟩ := two_cells hGW2
  obtain ⟨⟨k22, k23⟩, _, _⟩ := two_cells hIW2
  have HCB := Lib.hid (rreverse_any N a l cap W2 hlen HN.out (hr.on bW2))
  rw [HNA.out, HLA.out, HEA.out] at HCB
  go_wp2_with fail
  refine HCB.out.mono ?_
  rintro e v3 ⟨aB, cB, rfl, hoB, _, hbv3⟩
  have hbA3 := (Below.refl v3.heap.size v3).alloc (Nat.le_refl _) (.cells #[.int .i64 NA, .slice aB lA.length cB] 24)
  have hb3 := bthen hbv3 hbA3 hbv3.size
  have sv3 := hbv3.size
  have su3 := hoB.lt
  have hqB3 := heap_top v3 (.cells #[.int .i64 NA, .slice aB lA.length cB] 24)
  have hoB3 := hoB.on hbA3
  have hGW3 := (hb3.block _ (lt_of_block hGW2)).trans hGW2
  have hIW3 := (hb3.block _ (lt_of_block hIW2)).trans hIW2
  have hSW3 := hSW2.on hb3
  have hqA3 := (hb3.block _ (lt_of_block hqA2)).trans hqA2
  have hoA3 := hoA2.on hb3
  have bW3 := bthen bW2 hb3 bW2.size
  have sW3 : v3.heap.size < (v3.alloc (.cells #[.int .i64 NA, .slice aB lA.length cB] 24)).heap.size := by simp
  obtain ⟨⟨y30, y31⟩, _, _⟩ := two_cells ((hbv3.block _ (lt_of_block hGW2)).trans hGW2)
  obtain ⟨⟨z30, z31⟩, _, _⟩ := two_cells ((hbv3.block _ (lt_of_block hIW2)).trans hIW2)
  clear hGW2 hIW2 hSW2 hqA2 hoA2 bW2 hbA3 hbv3 hb3 hoB HCB
  generalize hW3 : v3.alloc (.cells #[.int .i64 NA, .slice aB lA.length cB] 24) = W3 at *
  obtain ⟨⟨k30, k31⟩, _, _⟩ := two_cells hGW3
  obtain ⟨⟨k32, k33⟩, _, _⟩ := two_cells hIW3
  have HCC := Lib.hid (weigh_any N (some ⟨g0, 0, none⟩) l c0 a1 ws cap1 W3 hlen (HNG.out g0 c0) hSW3.arcs (hu.on bW3))
  rw [HNC.out, HLC.out, HEC.out] at HCC
  go_wp2_with fail
  refine HCC.out.mono ?_
  rintro e v4 ⟨aC, cC, rfl, hoC, _, hbv4⟩
  have hbA4 := (Below.refl v4.heap.size v4).alloc (Nat.le_refl _) (.cells #[.int .i64 NC, .slice aC lC.length cC] 24)
  have hb4 := bthen hbv4 hbA4 hbv4.size
  have sv4 := hbv4.size
  have su4 := hoC.lt
  have hqC4 := heap_top v4 (.cells #[.int .i64 NC, .slice aC lC.length cC] 24)
  have hoC4 := hoC.on hbA4
  have hGW4 := (hb4.block _ (lt_of_block hGW3)).trans hGW3
  have hIW4 := (hb4.block _ (lt_of_block hIW3)).trans hIW3
  have hSW4 := hSW3.on hb4
  have hqA4 := (hb4.block _ (lt_of_block hqA3)).trans hqA3
  have hoA4 := hoA3.on hb4
  have hqB4 := (hb4.block _ (lt_of_block hqB3)).trans hqB3
  have hoB4 := hoB3.on hb4
  have bW4 := bthen bW3 hb4 bW3.size
  have sW4 : v4.heap.size < (v4.alloc (.cells #[.int .i64 NC, .slice aC lC.length cC] 24)).heap.size := by simp
  obtain ⟨⟨y40, y41⟩, _, _⟩ := two_cells ((hbv4.block _ (lt_of_block hGW3)).trans hGW3)
  obtain ⟨⟨z40, z41⟩, _, _⟩ := two_cells ((hbv4.block _ (lt_of_block hIW3)).trans hIW3)
  clear hGW3 hIW3 hSW3 hqA3 hoA3 hqB3 hoB3 bW3 hbA4 hbv4 hb4 hoC HCC
  generalize hW4 : v4.alloc (.cells #[.int .i64 NC, .slice aC lC.length cC] 24) = W4 at *
  obtain ⟨⟨k40, k41⟩, _, _⟩ := two_cells hGW4
  obtain ⟨⟨k42, k43⟩, _, _⟩ := two_cells hIW4
  have HCD := Lib.hid (rweigh_any N a l cap a1 ws cap1 W4 hlen HN.out (hr.on bW4) (hu.on bW4))
  rw [HNC.out, HLC.out, HEC.out] at HCD
  go_wp2_with fail
  refine HCD.out.mono ?_
  rintro e v5 ⟨aD, cD, rfl, hoD, _, hbv5⟩
  have hbA5 := (Below.refl v5.heap.size v5).alloc (Nat.le_refl _) (.cells #[.int .i64 NC, .slice aD lC.length cD] 24)
  have hb5 := bthen hbv5 hbA5 hbv5.size
  have sv5 := hbv5.size
  have su5 := hoD.lt
  have hqD5 := heap_top v5 (.cells #[.int .i64 NC, .slice aD lC.length cD] 24)
  have hoD5 := hoD.on hbA5
  have hGW5 := (hb5.block _ (lt_of_block hGW4)).trans hGW4
  have hIW5 := (hb5.block _ (lt_of_block hIW4)).trans hIW4
  have hSW5 := hSW4.on hb5
  have hqA5 := (hb5.block _ (lt_of_block hqA4)).trans hqA4
  have hoA5 := hoA4.on hb5
  have hqB5 := (hb5.block _ (lt_of_block hqB4)).trans hqB4
  have hoB5 := hoB4.on hb5
  have hqC5 := (hb5.block _ (lt_of_block hqC4)).trans hqC4
  have hoC5 := hoC4.on hb5
  have bW5 := bthen bW4 hb5 bW4.size
  have sW5 : v5.heap.size < (v5.alloc (.cells #[.int .i64 NC, .slice aD lC.length cD] 24)).heap.size := by simp
  obtain ⟨⟨y50, y51⟩, _, _⟩ := two_cells ((hbv5.block _ (lt_of_block hGW4)).trans hGW4)
  obtain ⟨⟨z50, z51⟩, _, _⟩ := two_cells ((hbv5.block _ (lt_of_block hIW4)).trans hIW4)
  clear hGW4 hIW4 hSW4 hqA4 hoA4 hqB4 hoB4 hqC4 hoC4 bW4 hbA5 hbv5 hb5 hoD HCD
  generalize hW5 : v5.alloc (.cells #[.int .i64 NC, .slice aD lC.length cD] 24) = W5 at *
  obtain ⟨⟨k50, k51⟩, _, _⟩ := two_cells hGW5
  obtain ⟨⟨k52, k53⟩, _, _⟩ := two_cells hIW5
  have HCX := Lib.hid (change_any N (some ⟨g0, 0, none⟩) l c0 a2 cs cap2 W5 hlen (by omega) (HNG.out g0 c0) hSW5.arcs (hc.on bW5))
  unfold ChgPost at HCX
  rw [HEX.out, HNX.out, HLX.out] at HCX
  go_wp2_with fail
  refine HCX.out.mono ?_
  rintro e v6 ⟨aX, cX, rfl, hoX, _, hbv6⟩
  have hbA6 := (Below.refl v6.heap.size v6).alloc (Nat.le_refl _) (.cells #[.int .i64 NX, .slice aX lX.length cX] 24)
  have hb6 := bthen hbv6 hbA6 hbv6.size
  have sv6 := hbv6.size
  have su6 := hoX.lt
  have hqX6 := heap_top v6 (.cells #[.int .i64 NX, .slice aX lX.length cX] 24)
  have hoX6 := hoX.on hbA6
  have hGW6 := (hb6.block _ (lt_of_block hGW5)).trans hGW5
  have hIW6 := (hb6.block _ (lt_of_block hIW5)).trans hIW5
  have hSW6 := hSW5.on hb6
  have hqA6 := (hb6.block _ (lt_of_block hqA5)).trans hqA5
  have hoA6 := hoA5.on hb6
  have hqB6 := (hb6.block _ (lt_of_block hqB5)).trans hqB5
  have hoB6 := hoB5.on hb6
  have hqC6 := (hb6.block _ (lt_of_block hqC5)).trans hqC5
  have hoC6 := hoC5.on hb6
  have hqD6 := (hb6.block _ (lt_of_block hqD5)).trans hqD5
  have hoD6 := hoD5.on hb6
  have bW6 := bthen bW5 hb6 bW5.size
  have sW6 : v6.heap.size < (v6.alloc (.cells #[.int .i64 NX, .slice aX lX.length cX] 24)).heap.size := by simp
  obtain ⟨⟨y60, y61⟩, _, _⟩ := two_cells ((hbv6.block _ (lt_of_block hGW5)).trans hGW5)
  obtain ⟨⟨z60, z61⟩, _, _⟩ := two_cells ((hbv6.block _ (lt_of_block hIW5)).trans hIW5)
  clear hGW5 hIW5 hSW5 hqA5 hoA5 hqB5 hoB5 hqC5 hoC5 hqD5 hoD5 bW5 hbA6 hbv6 hb6 hoX HCX
  generalize hW6 : v6.alloc (.cells #[.int .i64 NX, .slice aX lX.length cX] 24) = W6 at *
  obtain ⟨⟨k60, k61⟩, _, _⟩ := two_cells hGW6
  obtain ⟨⟨k62, k63⟩, _, _⟩ := two_cells hIW6
  have HCY := Lib.hid (rchange_any N a l cap a2 cs cap2 W6 hlen (by omega) HN.out (hr.on bW6) (hc.on bW6))
  unfold ChgPost at HCY
  rw [HEX.out, HNX.out, HLX.out] at HCY
  go_wp2_with fail
  refine HCY.out.mono ?_
  rintro e v7 ⟨aY, cY, rfl, hoY, _, hbv7⟩
  have hbA7 := (Below.refl v7.heap.size v7).alloc (Nat.le_refl _) (.cells #[.int .i64 NX, .slice aY lX.length cY] 24)
  have hb7 := bthen hbv7 hbA7 hbv7.size
  have sv7 := hbv7.size
  have su7 := hoY.lt
  have hqY7 := heap_top v7 (.cells #[.int .i64 NX, .slice aY lX.length cY] 24)
  have hoY7 := hoY.on hbA7
  have hGW7 := (hb7.block _ (lt_of_block hGW6)).trans hGW6
  have hIW7 := (hb7.block _ (lt_of_block hIW6)).trans hIW6
  have hSW7 := hSW6.on hb7
  have hqA7 := (hb7.block _ (lt_of_block hqA6)).trans hqA6
  have hoA7 := hoA6.on hb7
  have hqB7 := (hb7.block _ (lt_of_block hqB6)).trans hqB6
  have hoB7 := hoB6.on hb7
  have hqC7 := (hb7.block _ (lt_of_block hqC6)).trans hqC6
  have hoC7 := hoC6.on hb7
  have hqD7 := (hb7.block _ (lt_of_block hqD6)).trans hqD6
  have hoD7 := hoD6.on hb7
  have hqX7 := (hb7.block _ (lt_of_block hqX6)).trans hqX6
  have hoX7 := hoX6.on hb7
  have bW7 := bthen bW6 hb7 bW6.size
  have sW7 : v7.heap.size < (v7.alloc (.cells #[.int .i64 NX, .slice aY lX.length cY] 24)).heap.size := by simp
  obtain ⟨⟨y70, y71⟩, _, _⟩ := two_cells ((hbv7.block _ (lt_of_block hGW6)).trans hGW6)
  obtain ⟨⟨z70, z71⟩, _, _⟩ := two_cells ((hbv7.block _ (lt_of_block hIW6)).trans hIW6)
  clear hGW6 hIW6 hSW6 hqA6 hoA6 hqB6 hoB6 hqC6 hoC6 hqD6 hoD6 hqX6 hoX6 bW6 hbA7 hbv7 hb7 hoY HCY
  generalize hW7 : v7.alloc (.cells #[.int .i64 NX, .slice aY lX.length cY] 24) = W7 at *
  obtain ⟨⟨k70, k71⟩, _, _⟩ := two_cells hGW7
  obtain ⟨⟨k72, k73⟩, _, _⟩ := two_cells hIW7
  obtain ⟨⟨ccA0, ccA1⟩, _, _⟩ := two_cells hqA7
  obtain ⟨⟨ccB0, ccB1⟩, _, _⟩ := two_cells hqB7
  have sz1 : w1.heap.size < W1.heap.size := by rw [← hW1]; simp
  clear hW1 hW2 hW3 hW4 hW5 hW6
  go_wp2_with fail
  refine (sameGraph_any NA aA aB cA cB lA _ hlA hoA7.arcs hoB7.arcs).mono ?_
  rintro e v8 ⟨rfl, hb8⟩
  clear hW7
  have hGW8 := (hb8.block _ (lt_of_block hGW7)).trans hGW7
  have hIW8 := (hb8.block _ (lt_of_block hIW7)).trans hIW7
  have hSW8 := hSW7.on hb8
  have hqA8 := (hb8.block _ (lt_of_block hqA7)).trans hqA7
  have hoA8 := hoA7.on hb8
  have hqB8 := (hb8.block _ (lt_of_block hqB7)).trans hqB7
  have hoB8 := hoB7.on hb8
  have hqC8 := (hb8.block _ (lt_of_block hqC7)).trans hqC7
  have hoC8 := hoC7.on hb8
  have hqD8 := (hb8.block _ (lt_of_block hqD7)).trans hqD7
  have hoD8 := hoD7.on hb8
  have hqX8 := (hb8.block _ (lt_of_block hqX7)).trans hqX7
  have hoX8 := hoX7.on hb8
  have hqY8 := (hb8.block _ (lt_of_block hqY7)).trans hqY7
  have hoY8 := hoY7.on hb8
  have bW8 := bthen bW7 hb8 bW7.size
  have sv8 := hb8.size
  clear hGW7 hIW7 hSW7 hqA7 hoA7 hqB7 hoB7 hqC7 hoC7 hqD7 hoD7 hqX7 hoX7 hqY7 hoY7 bW7 hb8
  obtain ⟨⟨d8C0, d8C1⟩, _, _⟩ := two_cells hqC8
  obtain ⟨⟨d8D0, d8D1⟩, _, _⟩ := two_cells hqD8
  go_wp2_with fail
  refine (sameGraph_any NC aC aD cC cD lC _ hlC hoC8.arcs hoD8.arcs).mono ?_
  rintro e v9 ⟨rfl, hb9⟩
  have hGW9 := (hb9.block _ (lt_of_block hGW8)).trans hGW8
  have hIW9 := (hb9.block _ (lt_of_block hIW8)).trans hIW8
  have hSW9 := hSW8.on hb9
  have hqA9 := (hb9.block _ (lt_of_block hqA8)).trans hqA8
  have hoA9 := hoA8.on hb9
  have hqB9 := (hb9.block _ (lt_of_block hqB8)).trans hqB8
  have hoB9 := hoB8.on hb9
  have hqC9 := (hb9.block _ (lt_of_block hqC8)).trans hqC8
  have hoC9 := hoC8.on hb9
  have hqD9 := (hb9.block _ (lt_of_block hqD8)).trans hqD8
  have hoD9 := hoD8.on hb9
  have hqX9 := (hb9.block _ (lt_of_block hqX8)).trans hqX8
  have hoX9 := hoX8.on hb9
  have hqY9 := (hb9.block _ (lt_of_block hqY8)).trans hqY8
  have hoY9 := hoY8.on hb9
  have bW9 := bthen bW8 hb9 bW8.size
  have sv9 := hb9.size
  clear hGW8 hIW8 hSW8 hqA8 hoA8 hqB8 hoB8 hqC8 hoC8 hqD8 hoD8 hqX8 hoX8 hqY8 hoY8 bW8 hb9
  obtain ⟨⟨d9X0, d9X1⟩, _, _⟩ := two_cells hqX9
  obtain ⟨⟨d9Y0, d9Y1⟩, _, _⟩ := two_cells hqY9
  go_wp2_with fail
  refine (sameGraph_any NX aX aY cX cY lX _ hlX hoX9.arcs hoY9.arcs).mono ?_
  rintro e v10 ⟨rfl, hb10⟩
  have hGW10 := (hb10.block _ (lt_of_block hGW9)).trans hGW9
  have hIW10 := (hb10.block _ (lt_of_block hIW9)).trans hIW9
  have hSW10 := hSW9.on hb10
  have hqA10 := (hb10.block _ (lt_of_block hqA9)).trans hqA9
  have hoA10 := hoA9.on hb10
  have hqB10 := (hb10.block _ (lt_of_block hqB9)).trans hqB9
  have hoB10 := hoB9.on hb10
  have hqC10 := (hb10.block _ (lt_of_block hqC9)).trans hqC9
  have hoC10 := hoC9.on hb10
  have hqD10 := (hb10.block _ (lt_of_block hqD9)).trans hqD9
  have hoD10 := hoD9.on hb10
  have hqX10 := (hb10.block _ (lt_of_block hqX9)).trans hqX9
  have hoX10 := hoX9.on hb10
  have hqY10 := (hb10.block _ (lt_of_block hqY9)).trans hqY9
  have hoY10 := hoY9.on hb10
  have bW10 := bthen bW9 hb10 bW9.size
  have sv10 := hb10.size
  clear hGW9 hIW9 hSW9 hqA9 hoA9 hqB9 hoB9 hqC9 hoC9 hqD9 hoD9 hqX9 hoX9 hqY9 hoY9 bW9 hb10
  obtain ⟨⟨d10A0, d10A1⟩, _, _⟩ := two_cells hqA10
  go_wp2_with fail
  refine (spoilGraph_fin NA aA cA W1.heap.size v2.heap.size lA _ hoA10 (by omega) su2).mono ?_
  rintro e v11 ⟨rfl, hsp11⟩
  have hGW11 := hsp11.2.1 _ _ hGW10 not53
  have hIW11 := hsp11.2.1 _ _ hIW10 not53
  have hqC11 := hsp11.2.1 _ _ hqC10 not53
  have hqX11 := hsp11.2.1 _ _ hqX10 not53
  have hoC11 := hoC10.spoilt hsp11 (by omega)
  have hoX11 := hoX10.spoilt hsp11 (by omega)
  have hSW11 : Still v11 g0 l := fun j hj => (hSW10 j hj).onB (show g0 < W1.heap.size by omega) hsp11.1
  have bW11 := bW10.trans (hsp11.1.mono (by omega))
  have sv11 := hsp11.1.size
  obtain ⟨⟨d11C0, d11C1⟩, _, _⟩ := two_cells hqC11
  clear hsp11
  go_wp2_with fail
  refine (spoilGraph_fin NC aC cC W3.heap.size v4.heap.size lC _ hoC11 (by omega) su4).mono ?_
  rintro e v12 ⟨rfl, hsp12⟩
  have hGW12 := hsp12.2.1 _ _ hGW11 not53
  have hIW12 := hsp12.2.1 _ _ hIW11 not53
  have hqX12 := hsp12.2.1 _ _ hqX11 not53
  have hoX12 := hoX11.spoilt hsp12 (by omega)
  have hSW12 : Still v12 g0 l := fun j hj => (hSW11 j hj).onB (show g0 < W3.heap.size by omega) hsp12.1
  have bW12 := bW11.trans (hsp12.1.mono (by omega))
  have sv12 := hsp12.1.size
  obtain ⟨⟨d12X0, d12X1⟩, _, _⟩ := two_cells hqX12
  clear hsp12
  go_wp2_with fail
  refine (spoilGraph_fin NX aX cX W5.heap.size v6.heap.size lX _ hoX12 (by omega) su6).mono ?_
  rintro e v13 ⟨rfl, hsp13⟩
  have hGW13 := hsp13.2.1 _ _ hGW12 not53
  have hIW13 := hsp13.2.1 _ _ hIW12 not53
  have hSW13 : Still v13 g0 l := fun j hj => (hSW12 j hj).onB (show g0 < W5.heap.size by omega) hsp13.1
  have bW13 := bW12.trans (hsp13.1.mono (by omega))
  have sv13 := hsp13.1.size
  obtain ⟨⟨d13G0, d13G1⟩, _, _⟩ := two_cells hGW13
  obtain ⟨⟨d13I0, d13I1⟩, _, _⟩ := two_cells hIW13
  clear hsp13
  go_wp2_with fail
  refine (kept_any N g0 c0 a l cap _ hlen hc0 hcm0 hSW13 (hr.on bW13)).mono ?_
  rintro e v14 ⟨rfl, hb14⟩
  have bW14 := bthen bW13 hb14 bW13.size
  go_wp2_with fail
  refine (works_any _).mono ?_
  rintro e v15 ⟨rfl, hb15⟩
  have bW15 := bthen bW14 hb15 bW14.size
  go_wp2_with fail
  go_ret
  exact ⟨rfl, bW15⟩
end Go.Proofs.Ytkhgnefnmibomaa
