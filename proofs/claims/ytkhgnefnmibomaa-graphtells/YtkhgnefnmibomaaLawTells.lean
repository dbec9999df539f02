/-
  The law GraphTells: whether a graph is right, its arcs by vertices, its neighbours and its parts are as the reference has them.
-/
import Derived.Test.YtkhgnefnmibomaaNeighC
import Derived.Test.YtkhgnefnmibomaaRNeigh
import Derived.Test.YtkhgnefnmibomaaRParts
import Derived.Test.YtkhgnefnmibomaaKept
namespace Go.Proofs.Ytkhgnefnmibomaa
open Go.RowKit
theorem Rd.ofB {g : Nat} {w w' : World} (h : Below w.heap.size w w') : Rd g w w' := ⟨h.os, h.tape, h.output, h.size, fun k hk _ => h.block k hk⟩
set_option maxHeartbeats 400000 in
theorem spoilInts_rd (g n m B : Nat) (x : Int) (xs : List Value) (w : World) (hn : n ≤ 9223372036854775807) (hown : w.ownsRow B 3 1 (.slice (some ⟨g, 0, none⟩) n n) n xs) :
    Calls Try.prog 21 #[.slice (some ⟨g, 0, none⟩) m n, .int .i64 x] w fun e w' => e = .returned (.tuple #[]) ∧ Rd g w w' := by
  go_enter Try.func21, Try.ntmps21
  go_wp2_with fail
  go_loopw [4] (fun i wr => ∃ (k : Nat) (xs : List Value), k ≤ n ∧ i = .int .i64 k ∧ wr.ownsRow B 3 1 (.slice (some ⟨g, 0, none⟩) n n) n xs ∧ Rd g w wr) (fun i _ => n - (intOf i).toNat)
  case atStart => exact ⟨0, xs, Nat.zero_le _, rfl, hown, Rd.refl _ _⟩
  case round =>
    obtain ⟨k, ys, hk, rfl, ho, hbel⟩ := hrel
    by_cases hlt : k < n
    · have hyl : k < ys.length := by have := ho.1; omega
      have c2 : wr.cell? ⟨g, k, none⟩ = some ys[k] := (ho.cellAt k (by omega)).trans (List.getElem?_eq_getElem hyl)
      have f2 : wr.frozen? ⟨g, k, none⟩ = false := ho.frozenAt k
      generalize ys[k] = y at c2
      have HS := Lib.hid (ho.stored k (.int .i64 x))
      go_wp2_with fail
      exact ⟨⟨k + 1, _, by omega, by go_num, HS.out.1, hbel.trans (Rd.set _ _ _)⟩, by simp [intOf]; omega⟩
    · go_wp2_with fail
      go_end0
      exact ⟨rfl, hbel⟩
/-- What spoiling leaves: all below B, and what lies from U on. -/
def SpoiltI (B U : Nat) (w w' : World) : Prop := Below B w w' ∧ ∀ k, U ≤ k → k < w.heap.size → w'.heap[k]? = w.heap[k]?
theorem spoilInts_fin (a : Option Addr) (c B U : Nat) (x : Int) (xs : List Int) (w : World) (hown : OwnI w B a c xs) (hB : B ≤ w.heap.size) (hU : ∀ g, a = some ⟨g, 0, none⟩ → g < U) :
    Calls Try.prog 21 #[.slice a xs.length c, .int .i64 x] w fun e w' => e = .returned (.tuple #[]) ∧ SpoiltI B U w w' := by
  rcases hown.2 with ⟨h', h0⟩ | ⟨g, c', cur, h', hb, hg, hnc, hm, _⟩
  · injection h' with e1 e2 e3
    subst e1 e3
    rw [h0]
    refine (spoilInts_none x w).mono ?_
    rintro e w' ⟨rfl, rfl⟩
    exact ⟨rfl, Below.refl _ _, fun k _ _ => rfl⟩
  · injection h' with e1 e2 e3
    subst e1 e3
    obtain ⟨ys, hy⟩ := own_wide hown
    refine (spoilInts_rd g c xs.length B x ys w (by unfold maxLen at hm; omega) hy).mono ?_
    rintro e w' ⟨rfl, hr⟩
    have hgU := hU g rfl
    exact ⟨rfl, hr.below (Below.refl _ _) hb hB, fun k h1 h2 => hr.block k h2 (by omega)⟩
theorem OwnI.lt {w : World} {B : Nat} {a : Option Addr} {c : Nat} {xs : List Int} (h : OwnI w B a c xs) : ∀ g, a = .some ⟨g, 0, none⟩ → g < w.heap.size := by
  intro g e
  subst e
  exact (World.ownsRow.lt h g rfl).2
theorem OwnI.on {w w' : World} {B : Nat} {a : Option Addr} {c : Nat} {xs : List Int} (h : OwnI w B a c xs) (hb : Below w.heap.size w w') : OwnI w' B a c xs := own_keep h (fun k _ h2 _ => hb.block k h2)
theorem OwnI.spoilt {w w' : World} {B B' U : Nat} {a : Option Addr} {c : Nat} {xs : List Int} (h : OwnI w B a c xs) (hs : SpoiltI B' U w w') (hU : U ≤ B) : OwnI w' B a c xs := own_keep h (fun k h1 h2 _ => hs.2 k (by omega) h2)
theorem outL_len (N : Int) (l : List A) (v : Int) (xs : List Int) (h : chkE N l = 0 → xs.length ≤ 9223372036854775807) : (outL N l v xs).length ≤ 9223372036854775807 := by
  unfold outL
  split
  · rename_i e
    refine h (Decidable.byContradiction fun hc => ?_)
    unfold outE at e
    rw [if_neg hc] at e
    exact hc e
  · simp
theorem partsL_len (N : Int) (l : List A) : (partsL N l).length ≤ 9223372036854775807 := by
  unfold partsL
  split
  · rename_i h
    have := chk_zero h
    rw [ints_len, labs_len]
    omega
  · simp
set_option maxHeartbeats 3200000 in
set_option maxRecDepth 100000 in
theorem law_tells (N v : Int) (a : Option Addr) (l : List A) (cap : Nat) (w : World) (hlen : l.length * 24 ≤ 140737488351232) (hn : a = none → l = [] ∧ cap = 0) (hr : Arcs w a l) :
    Calls Try.prog 3 #[.agg #[.int .i64 N, .slice a l.length cap], .int .i64 v] w fun e w' => e = .returned (.bool true) ∧ Below w.heap.size w w' := by
  have hl : l.length ≤ 9223372036854775807 := by omega
  have hb0 : Below w.heap.size w (w.alloc (.cells #[.int .i64 N, .slice a l.length cap] 24)) := (Below.refl _ _).alloc (Nat.le_refl _) _
  have HN := Lib.hid hn
  clear hn
  have hG := heap_top w (.cells #[.int .i64 N, .slice a l.length cap] 24)
  have hr0 := hr.on hb0
  obtain ⟨T, HT⟩ := named (chkAt N l)
  obtain ⟨EC, HEC⟩ := named (chkE N l)
  obtain ⟨EO, HEO⟩ := named (outE N l v)
  obtain ⟨xo, HXO⟩ := named (outL N l v (outs l v))
  obtain ⟨xi, HXI⟩ := named (outL N l v (ins l v))
  obtain ⟨xn, HXN⟩ := named (outL N l v (nbs N.toNat l v.toNat))
  obtain ⟨xp, HXP⟩ := named (partsL N l)
  have hlo : xo.length ≤ 9223372036854775807 := by rw [← HXO.out]; exact outL_len _ _ _ _ (fun _ => Nat.le_trans (hits_len _ _) hl)
  have hli : xi.length ≤ 9223372036854775807 := by rw [← HXI.out]; exact outL_len _ _ _ _ (fun _ => Nat.le_trans (hits_len _ _) hl)
  have hln : xn.length ≤ 9223372036854775807 := by rw [← HXN.out]; exact outL_len _ _ _ _ (fun h => Nat.le_trans (hits_len _ _) (by have := chk_zero h; omega))
  have hlp : xp.length ≤ 9223372036854775807 := by rw [← HXP.out]; exact partsL_len _ _
  go_enter Try.func3, Try.ntmps3
  go_wp2_with fail
  refine (lend_any N a l cap _ hlen HN.out hr0).mono ?_
  rintro e w1 ⟨g0, c0, rfl, hc0, hcm0, hown0, hb1⟩
  have hS := still_own hown0
  have hSlt := hS.lt
  have hG1 := (hb1.block _ (by simp)).trans hG
  have b1 := bthen hb0 hb1 (by simp)
  have sG := lt_of_block hG1
  clear hown0 hb1 hb0 hr0 hG
  have hbI := (Below.refl w1.heap.size w1).alloc (Nat.le_refl _) (.cells #[.int .i64 N, .slice (some ⟨g0, 0, none⟩) l.length c0] 24)
  have hI1 := heap_top w1 (.cells #[.int .i64 N, .slice (some ⟨g0, 0, none⟩) l.length c0] 24)
  have hGW1 := (hbI.block _ sG).trans hG1
  have hSW1 := hS.on hbI
  have bW1 := bthen b1 hbI b1.size
  have sw1 : w.heap.size ≤ w1.heap.size := b1.size
  have sz1 : w1.heap.size < (w1.alloc (.cells #[.int .i64 N, .slice (some ⟨g0, 0, none⟩) l.length c0] 24)).heap.size := by simp
  obtain ⟨⟨x0, x1⟩, _, _⟩ := two_cells hG1
  clear hbI hS b1 hG1
  have hIW1 := hI1
  clear hI1
  generalize hW1 : w1.alloc (.cells #[.int .i64 N, .slice (some ⟨g0, 0, none⟩) l.length c0] 24) = W1 at *
  obtain ⟨⟨k10, k11⟩, _, _⟩ := two_cells hGW1
  obtain ⟨⟨k12, k13⟩, _, _⟩ := two_cells hIW1
  have HC2 := Lib.hid (check_any N (some ⟨g0, 0, none⟩) l c0 W1 hl hSW1.arcs)
  rw [HT.out, HEC.out] at HC2
  go_wp2_with fail
  refine HC2.out.mono ?_
  rintro e v2 ⟨rfl, hb2⟩
  clear hW1
  clear HC2
  have hGW2 := (hb2.block _ (lt_of_block hGW1)).trans hGW1
  have hIW2 := (hb2.block _ (lt_of_block hIW1)).trans hIW1
  have hSW2 := hSW1.on hb2
  have bW2 := bthen bW1 hb2 bW1.size
  have sv2 := hb2.size
  clear hGW1 hIW1 hSW1 bW1 hb2  
  obtain ⟨⟨k20, k21⟩, _, _⟩ := two_cells hGW2
  obtain ⟨⟨k22, k23⟩, _, _⟩ := two_cells hIW2
  have HC3 := Lib.hid (rcheck_any N a l cap v2 hl (hr.on bW2))
  rw [HT.out, HEC.out] at HC3
  go_wp2_with fail
  refine HC3.out.mono ?_
  rintro e v3 ⟨rfl, hb3⟩
  clear HC3
  have hGW3 := (hb3.block _ (lt_of_block hGW2)).trans hGW2
  have hIW3 := (hb3.block _ (lt_of_block hIW2)).trans hIW2
  have hSW3 := hSW2.on hb3
  have bW3 := bthen bW2 hb3 bW2.size
  have sv3 := hb3.size
  clear hGW2 hIW2 hSW2 bW2 hb3  
  obtain ⟨⟨k30, k31⟩, _, _⟩ := two_cells hGW3
  obtain ⟨⟨k32, k33⟩, _, _⟩ := two_cells hIW3
  have HC4 := Lib.hid (outs_any N v (some ⟨g0, 0, none⟩) l c0 v3 hl hSW3.arcs)
  rw [HXO.out, HEO.out] at HC4
  go_wp2_with fail
  refine HC4.out.mono ?_
  rintro e v4 ⟨aA, cA, rfl, hoA4, hb4⟩
  clear HC4
  have suA := OwnI.lt hoA4
  have sBA : v3.heap.size ≤ v4.heap.size := hb4.size
  have hGW4 := (hb4.block _ (lt_of_block hGW3)).trans hGW3
  have hIW4 := (hb4.block _ (lt_of_block hIW3)).trans hIW3
  have hSW4 := hSW3.on hb4
  have bW4 := bthen bW3 hb4 bW3.size
  have sv4 := hb4.size
  clear hGW3 hIW3 hSW3 bW3 hb4  
  obtain ⟨⟨k40, k41⟩, _, _⟩ := two_cells hGW4
  obtain ⟨⟨k42, k43⟩, _, _⟩ := two_cells hIW4
  have HC5 := Lib.hid (rout_any N v a l cap v4 hl (hr.on bW4))
  rw [HXO.out, HEO.out] at HC5
  go_wp2_with fail
  refine HC5.out.mono ?_
  rintro e v5 ⟨aB, cB, rfl, hoB5, hb5⟩
  clear HC5
  have suB := OwnI.lt hoB5
  have sBB : v4.heap.size ≤ v5.heap.size := hb5.size
  have hGW5 := (hb5.block _ (lt_of_block hGW4)).trans hGW4
  have hIW5 := (hb5.block _ (lt_of_block hIW4)).trans hIW4
  have hSW5 := hSW4.on hb5
  have hoA5 := OwnI.on hoA4 hb5
  have bW5 := bthen bW4 hb5 bW4.size
  have sv5 := hb5.size
  clear hGW4 hIW4 hSW4 bW4 hb5 hoA4 
  obtain ⟨⟨k50, k51⟩, _, _⟩ := two_cells hGW5
  obtain ⟨⟨k52, k53⟩, _, _⟩ := two_cells hIW5
  go_wp2_with fail
  refine (sameInts_any aA aB cA cB xo _ hlo (OwnI.ints hoA5) (OwnI.ints hoB5)).mono ?_
  rintro e v6 ⟨rfl, hb6⟩
  have hGW6 := (hb6.block _ (lt_of_block hGW5)).trans hGW5
  have hIW6 := (hb6.block _ (lt_of_block hIW5)).trans hIW5
  have hSW6 := hSW5.on hb6
  have hoA6 := OwnI.on hoA5 hb6
  have hoB6 := OwnI.on hoB5 hb6
  have bW6 := bthen bW5 hb6 bW5.size
  have sv6 := hb6.size
  clear hGW5 hIW5 hSW5 bW5 hb6 hoA5 hoB5 
  obtain ⟨⟨k60, k61⟩, _, _⟩ := two_cells hGW6
  obtain ⟨⟨k62, k63⟩, _, _⟩ := two_cells hIW6
  clear hoA6 hoB6 suA suB sBA sBB
  have HC7 := Lib.hid (ins_any N v (some ⟨g0, 0, none⟩) l c0 v6 hl hSW6.arcs)
  rw [HXI.out, HEO.out] at HC7
  go_wp2_with fail
  refine HC7.out.mono ?_
  rintro e v7 ⟨aC, cC, rfl, hoC7, hb7⟩
  clear HC7
  have suC := OwnI.lt hoC7
  have sBC : v6.heap.size ≤ v7.heap.size := hb7.size
  have hGW7 := (hb7.block _ (lt_of_block hGW6)).trans hGW6
  have hIW7 := (hb7.block _ (lt_of_block hIW6)).trans hIW6
  have hSW7 := hSW6.on hb7
  have bW7 := bthen bW6 hb7 bW6.size
  have sv7 := hb7.size
  clear hGW6 hIW6 hSW6 bW6 hb7  
  obtain ⟨⟨k70, k71⟩, _, _⟩ := two_cells hGW7
  obtain ⟨⟨k72, k73⟩, _, _⟩ := two_cells hIW7
  have HC8 := Lib.hid (rin_any N v a l cap v7 hl (hr.on bW7))
  rw [HXI.out, HEO.out] at HC8
  go_wp2_with fail
  refine HC8.out.mono ?_
  rintro e v8 ⟨aD, cD, rfl, hoD8, hb8⟩
  clear HC8
  have suD := OwnI.lt hoD8
  have sBD : v7.heap.size ≤ v8.heap.size := hb8.size
  have hGW8 := (hb8.block _ (lt_of_block hGW7)).trans hGW7
  have hIW8 := (hb8.block _ (lt_of_block hIW7)).trans hIW7
  have hSW8 := hSW7.on hb8
  have hoC8 := OwnI.on hoC7 hb8
  have bW8 := bthen bW7 hb8 bW7.size
  have sv8 := hb8.size
  clear hGW7 hIW7 hSW7 bW7 hb8 hoC7 
  obtain ⟨⟨k80, k81⟩, _, _⟩ := two_cells hGW8
  obtain ⟨⟨k82, k83⟩, _, _⟩ := two_cells hIW8
  have HC9 := Lib.hid (neigh_any N v (some ⟨g0, 0, none⟩) l c0 v8 hl hSW8.arcs)
  rw [HXN.out, HEO.out] at HC9
  go_wp2_with fail
  refine HC9.out.mono ?_
  rintro e v9 ⟨aX, cX, rfl, hoX9, hb9⟩
  clear HC9
  have suX := OwnI.lt hoX9
  have sBX : v8.heap.size ≤ v9.heap.size := hb9.size
  have hGW9 := (hb9.block _ (lt_of_block hGW8)).trans hGW8
  have hIW9 := (hb9.block _ (lt_of_block hIW8)).trans hIW8
  have hSW9 := hSW8.on hb9
  have hoC9 := OwnI.on hoC8 hb9
  have hoD9 := OwnI.on hoD8 hb9
  have bW9 := bthen bW8 hb9 bW8.size
  have sv9 := hb9.size
  clear hGW8 hIW8 hSW8 bW8 hb9 hoC8 hoD8 
  obtain ⟨⟨k90, k91⟩, _, _⟩ := two_cells hGW9
  obtain ⟨⟨k92, k93⟩, _, _⟩ := two_cells hIW9
  have HC10 := Lib.hid (rneigh_any N v a l cap v9 hl (hr.on bW9))
  rw [HXN.out, HEO.out] at HC10
  go_wp2_with fail
  refine HC10.out.mono ?_
  rintro e v10 ⟨aY, cY, rfl, hoY10, hb10⟩
  clear HC10
  have suY := OwnI.lt hoY10
  have sBY : v9.heap.size ≤ v10.heap.size := hb10.size
  have hGW10 := (hb10.block _ (lt_of_block hGW9)).trans hGW9
  have hIW10 := (hb10.block _ (lt_of_block hIW9)).trans hIW9
  have hSW10 := hSW9.on hb10
  have hoC10 := OwnI.on hoC9 hb10
  have hoD10 := OwnI.on hoD9 hb10
  have hoX10 := OwnI.on hoX9 hb10
  have bW10 := bthen bW9 hb10 bW9.size
  have sv10 := hb10.size
  clear hGW9 hIW9 hSW9 bW9 hb10 hoC9 hoD9 hoX9 
  obtain ⟨⟨k100, k101⟩, _, _⟩ := two_cells hGW10
  obtain ⟨⟨k102, k103⟩, _, _⟩ := two_cells hIW10
  have HC11 := Lib.hid (parts_any N (some ⟨g0, 0, none⟩) l c0 v10 hl hSW10.arcs)
  rw [HXP.out, HEC.out] at HC11
  go_wp2_with fail
  refine HC11.out.mono ?_
  rintro e v11 ⟨aP, cP, rfl, hoP11, hb11⟩
  clear HC11
  have suP := OwnI.lt hoP11
  have sBP : v10.heap.size ≤ v11.heap.size := hb11.size
  have hGW11 := (hb11.block _ (lt_of_block hGW10)).trans hGW10
  have hIW11 := (hb11.block _ (lt_of_block hIW10)).trans hIW10
  have hSW11 := hSW10.on hb11
  have hoC11 := OwnI.on hoC10 hb11
  have hoD11 := OwnI.on hoD10 hb11
  have hoX11 := OwnI.on hoX10 hb11
  have hoY11 := OwnI.on hoY10 hb11
  have bW11 := bthen bW10 hb11 bW10.size
  have sv11 := hb11.size
  clear hGW10 hIW10 hSW10 bW10 hb11 hoC10 hoD10 hoX10 hoY10 
  obtain ⟨⟨k110, k111⟩, _, _⟩ := two_cells hGW11
  obtain ⟨⟨k112, k113⟩, _, _⟩ := two_cells hIW11
  have HC12 := Lib.hid (rparts_any N a l cap v11 hl (hr.on bW11))
  rw [HXP.out, HEC.out] at HC12
  go_wp2_with fail
  refine HC12.out.mono ?_
  rintro e v12 ⟨aQ, cQ, rfl, hoQ12, hb12⟩
  clear HC12
  have suQ := OwnI.lt hoQ12
  have sBQ : v11.heap.size ≤ v12.heap.size := hb12.size
  have hGW12 := (hb12.block _ (lt_of_block hGW11)).trans hGW11
  have hIW12 := (hb12.block _ (lt_of_block hIW11)).trans hIW11
  have hSW12 := hSW11.on hb12
  have hoC12 := OwnI.on hoC11 hb12
  have hoD12 := OwnI.on hoD11 hb12
  have hoX12 := OwnI.on hoX11 hb12
  have hoY12 := OwnI.on hoY11 hb12
  have hoP12 := OwnI.on hoP11 hb12
  have bW12 := bthen bW11 hb12 bW11.size
  have sv12 := hb12.size
  clear hGW11 hIW11 hSW11 bW11 hb12 hoC11 hoD11 hoX11 hoY11 hoP11 
  obtain ⟨⟨k120, k121⟩, _, _⟩ := two_cells hGW12
  obtain ⟨⟨k122, k123⟩, _, _⟩ := two_cells hIW12
  go_wp2_with fail
  refine (sameInts_any aC aD cC cD xi _ hli (OwnI.ints hoC12) (OwnI.ints hoD12)).mono ?_
  rintro e v13 ⟨rfl, hb13⟩
  have hGW13 := (hb13.block _ (lt_of_block hGW12)).trans hGW12
  have hIW13 := (hb13.block _ (lt_of_block hIW12)).trans hIW12
  have hSW13 := hSW12.on hb13
  have hoC13 := OwnI.on hoC12 hb13
  have hoD13 := OwnI.on hoD12 hb13
  have hoX13 := OwnI.on hoX12 hb13
  have hoY13 := OwnI.on hoY12 hb13
  have hoP13 := OwnI.on hoP12 hb13
  have hoQ13 := OwnI.on hoQ12 hb13
  have bW13 := bthen bW12 hb13 bW12.size
  have sv13 := hb13.size
  clear hGW12 hIW12 hSW12 bW12 hb13 hoC12 hoD12 hoX12 hoY12 hoP12 hoQ12 
  obtain ⟨⟨k130, k131⟩, _, _⟩ := two_cells hGW13
  obtain ⟨⟨k132, k133⟩, _, _⟩ := two_cells hIW13
  go_wp2_with fail
  refine (sameInts_any aX aY cX cY xn _ hln (OwnI.ints hoX13) (OwnI.ints hoY13)).mono ?_
  rintro e v14 ⟨rfl, hb14⟩
  have hGW14 := (hb14.block _ (lt_of_block hGW13)).trans hGW13
  have hIW14 := (hb14.block _ (lt_of_block hIW13)).trans hIW13
  have hSW14 := hSW13.on hb14
  have hoC14 := OwnI.on hoC13 hb14
  have hoD14 := OwnI.on hoD13 hb14
  have hoX14 := OwnI.on hoX13 hb14
  have hoY14 := OwnI.on hoY13 hb14
  have hoP14 := OwnI.on hoP13 hb14
  have hoQ14 := OwnI.on hoQ13 hb14
  have bW14 := bthen bW13 hb14 bW13.size
  have sv14 := hb14.size
  clear hGW13 hIW13 hSW13 bW13 hb14 hoC13 hoD13 hoX13 hoY13 hoP13 hoQ13 
  obtain ⟨⟨k140, k141⟩, _, _⟩ := two_cells hGW14
  obtain ⟨⟨k142, k143⟩, _, _⟩ := two_cells hIW14
  go_wp2_with fail
  refine (sameInts_any aP aQ cP cQ xp _ hlp (OwnI.ints hoP14) (OwnI.ints hoQ14)).mono ?_
  rintro e v15 ⟨rfl, hb15⟩
  have hGW15 := (hb15.block _ (lt_of_block hGW14)).trans hGW14
  have hIW15 := (hb15.block _ (lt_of_block hIW14)).trans hIW14
  have hSW15 := hSW14.on hb15
  have hoC15 := OwnI.on hoC14 hb15
  have hoD15 := OwnI.on hoD14 hb15
  have hoX15 := OwnI.on hoX14 hb15
  have hoY15 := OwnI.on hoY14 hb15
  have hoP15 := OwnI.on hoP14 hb15
  have hoQ15 := OwnI.on hoQ14 hb15
  have bW15 := bthen bW14 hb15 bW14.size
  have sv15 := hb15.size
  clear hGW14 hIW14 hSW14 bW14 hb15 hoC14 hoD14 hoX14 hoY14 hoP14 hoQ14 
  obtain ⟨⟨k150, k151⟩, _, _⟩ := two_cells hGW15
  obtain ⟨⟨k152, k153⟩, _, _⟩ := two_cells hIW15
  go_wp2_with fail
  refine (spoilInts_fin aC cC v6.heap.size v7.heap.size (-7) xi _ hoC15 (by omega) suC).mono ?_
  rintro e v16 ⟨rfl, hsp16⟩
  have hGW16 := (hsp16.1.block _ (show w.heap.size < v6.heap.size by omega)).trans hGW15
  have hIW16 := (hsp16.1.block _ (show w1.heap.size < v6.heap.size by omega)).trans hIW15
  have hSW16 : Still v16 g0 l := fun j hj => (hSW15 j hj).onB (show g0 < v6.heap.size by omega) hsp16.1
  have hoX16 := OwnI.spoilt hoX15 hsp16 (by omega)
  have hoP16 := OwnI.spoilt hoP15 hsp16 (by omega)
  have bW16 := bW15.trans (hsp16.1.mono (by omega))
  have sv16 := hsp16.1.size
  obtain ⟨⟨k160, k161⟩, _, _⟩ := two_cells hGW16
  obtain ⟨⟨k162, k163⟩, _, _⟩ := two_cells hIW16
  clear hsp16
  go_wp2_with fail
  refine (spoilInts_fin aX cX v8.heap.size v9.heap.size (-8) xn _ hoX16 (by omega) suX).mono ?_
  rintro e v17 ⟨rfl, hsp17⟩
  have hGW17 := (hsp17.1.block _ (show w.heap.size < v8.heap.size by omega)).trans hGW16
  have hIW17 := (hsp17.1.block _ (show w1.heap.size < v8.heap.size by omega)).trans hIW16
  have hSW17 : Still v17 g0 l := fun j hj => (hSW16 j hj).onB (show g0 < v8.heap.size by omega) hsp17.1
  have hoP17 := OwnI.spoilt hoP16 hsp17 (by omega)
  have bW17 := bW16.trans (hsp17.1.mono (by omega))
  have sv17 := hsp17.1.size
  obtain ⟨⟨k170, k171⟩, _, _⟩ := two_cells hGW17
  obtain ⟨⟨k172, k173⟩, _, _⟩ := two_cells hIW17
  clear hsp17
  go_wp2_with fail
  refine (spoilInts_fin aP cP v10.heap.size v11.heap.size (-9) xp _ hoP17 (by omega) suP).mono ?_
  rintro e v18 ⟨rfl, hsp18⟩
  have hGW18 := (hsp18.1.block _ (show w.heap.size < v10.heap.size by omega)).trans hGW17
  have hIW18 := (hsp18.1.block _ (show w1.heap.size < v10.heap.size by omega)).trans hIW17
  have hSW18 : Still v18 g0 l := fun j hj => (hSW17 j hj).onB (show g0 < v10.heap.size by omega) hsp18.1
  have bW18 := bW17.trans (hsp18.1.mono (by omega))
  have sv18 := hsp18.1.size
  obtain ⟨⟨k180, k181⟩, _, _⟩ := two_cells hGW18
  obtain ⟨⟨k182, k183⟩, _, _⟩ := two_cells hIW18
  clear hsp18
  go_wp2_with fail
  refine (kept_any N g0 c0 a l cap _ hlen hc0 hcm0 hSW18 (hr.on bW18)).mono ?_
  rintro e v19 ⟨rfl, hb19⟩
  have bW19 := bthen bW18 hb19 bW18.size
  go_wp2_with fail
  refine (works_any _).mono ?_
  rintro e v20 ⟨rfl, hb20⟩
  have bW20 := bthen bW19 hb20 bW19.size
  go_wp2_with fail
  go_ret
  exact ⟨rfl, bW20⟩
end Go.Proofs.Ytkhgnefnmibomaa
