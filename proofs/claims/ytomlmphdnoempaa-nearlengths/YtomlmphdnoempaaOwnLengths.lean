/-
  Whether arcs are a walk, and how long, is as the document has it: NearLengths returns true for every graph, every two vertices and every arcs, whatever the heap holds. NearLengths returns true.
-/
import Derived.Test.YtomlmphdnoempaaLendI
import Derived.Test.YtomlmphdnoempaaWks
import Derived.Test.YtomlmphdnoempaaRows
import Derived.Test.YtomlmphdnoempaaGiven2
import Derived.ProofKit
import Derived.OpenShut
import Derived.ChangeOld
import Derived.Below
import Derived.SizedLaws
namespace Go.Proofs.Ytomlmphdnoempaa
open Go.RowKit
set_option maxHeartbeats 3200000 in
set_option maxRecDepth 100000 in
theorem rlength_any (N : Int) (a : Option Addr) (l : List A) (cap : Nat) (s t : Int) (ap : Option Addr) (xs : List Int) (c : Nat) (w : World) (hl : l.length ≤ 9223372036854775807) (hxl : xs.length ≤ 9223372036854775807) (hw : ∀ x ∈ l, 0 ≤ x.w ∧ x.w < 4294967296) (hr : Arcs w a l) (hi : Ints w ap xs) :
    Calls Try.prog 29 #[.agg #[.int .i64 N, .slice a l.length cap], .int .i64 s, .int .i64 t, .slice ap xs.length c] w fun e w' => e = .returned (.tuple #[.int .u64 (lenR N l s t xs).1, .int .i64 (lenR N l s t xs).2]) ∧ Below w.heap.size w w' := by
  have hb0 : Below w.heap.size w (w.alloc (.cells #[.int .i64 N, .slice a l.length cap] 24)) := (Below.refl _ _).alloc (Nat.le_refl _) _
  have hg := heap_top w (.cells #[.int .i64 N, .slice a l.length cap] 24)
  have HCK := Lib.hid (looked_any N a l cap s t _ hl (hr.on hb0))
  have HR := Lib.hid hr
  have HI := Lib.hid hi
  have HW := Lib.hid hw
  obtain ⟨R, HRR⟩ := named (lenR N l s t xs)
  rw [HRR.out]
  clear hr hi hw
  by_cases hE : nearE N l [s, t] = 0
  · rw [hE] at HCK
    obtain ⟨n, s, t, rfl, rfl, rfl, hs, ht, g⟩ := near_both hE HW.out
    have HG := Lib.hid g
    have hlb := g.lb
    have HR2 : Hid ((if 16384 < xs.length then ((0 : Int), (2 : Int)) else (if xs.all (okV l.length) = true then (if lrB (lrun l s 0 (nats xs)) t = true then (lrD (lrun l s 0 (nats xs)), 0) else (0, 4)) else (0, 5))) = R) := by
      show _ = _
      rw [← HRR.out]; unfold lenR; rw [if_pos hE]; simp only [Int.toNat_natCast]
    clear hE g HRR
    go_enter Try.func29, Try.ntmps29
    go_wp2_with fail
    refine HCK.out.mono ?_
    rintro e w1 ⟨rfl, hb1⟩
    have hg1 := (hb1.block _ (lt_of_block hg)).trans hg
    have b1 : Below w.heap.size w w1 := hb0.trans (hb1.mono hb0.size)
    clear hg hb0 hb1 HCK
    have HI1 := Lib.hid (HI.out.on b1)
    by_cases hlong : (16384 : Int) < xs.length
    · obtain rfl : R = (0, 2) := by rw [← HR2.out, if_pos (by omega)]
      go_wp2_with fail
      go_ret2
      exact ⟨rfl, b1⟩
    · have HR3 : Hid ((if xs.all (okV l.length) = true then (if lrB (lrun l s 0 (nats xs)) t = true then (lrD (lrun l s 0 (nats xs)), (0 : Int)) else (0, 4)) else (0, 5)) = R) := by
        have := HR2.out
        rwa [if_neg (by omega)] at this
      go_wp2_with fail
      go_loopw [11] (fun i wr => ∃ k m : Nat, k ≤ xs.length ∧ i = .int .i64 k ∧ Hid ((xs.take k).all (okV l.length) = true) ∧ wr = w1.drewN m) (fun i _ => xs.length - (intOf i).toNat)
      case atStart => exact ⟨0, 0, Nat.zero_le _, rfl, by show _ = _; simp, rfl⟩
      case round =>
        obtain ⟨k, m, hk, rfl, hall, rfl⟩ := hrel
        obtain ⟨⟨g0, g1⟩, -⟩ := two_cells hg1
        by_cases hlt : k < xs.length
        · obtain ⟨bx, ox, hxx⟩ := HI1.out.get
          obtain ⟨rfl, hbl, hat⟩ := hxx (by omega)
          have c0 := hat k hlt
          have hlt' : (k : Int) < xs.length := by omega
          clear hat hxx
          have HA := Lib.hid (fun h => all_take_succ (q := okV l.length) hlt hall.out h)
          have HB := Lib.hid (fun h => all_bad (q := okV l.length) hlt h)
          generalize xs.getD k 0 = v at *
          by_cases h1 : v < 0
          · obtain rfl : R = (0, 5) := by rw [← HR3.out, if_neg (by rw [HB.out (by simp [okV]; omega)]; simp)]
            have d1 : decide (v < 0) = true := by simpa using h1
            go_wp2_with fail
            go_quiet (fail)
            go_wp2_with fail
            go_ret2
            exact ⟨rfl, b1.trans (below_drewN _ _ _)⟩
          · have d1 : decide (v < 0) = false := by simpa using h1
            by_cases h2 : (l.length : Int) ≤ v
            · obtain rfl : R = (0, 5) := by rw [← HR3.out, if_neg (by rw [HB.out (by simp [okV]; omega)]; simp)]
              have d2 : decide ((l.length : Int) ≤ v) = true := by simpa using h2
              go_wp2_with fail
              go_quiet (fail)
              go_wp2_with fail
              go_ret2
              exact ⟨rfl, b1.trans (below_drewN _ _ _)⟩
            · have HA2 := Lib.hid (HA.out (by simp [okV]; omega))
              have d2 : decide ((l.length : Int) ≤ v) = false := by simpa using h2
              go_wp2_with fail
              go_quiet (fail)
              go_wp2_with fail
              exact ⟨⟨k + 1, _, by omega, by go_num, HA2, rfl⟩, by simp [intOf]; omega⟩
        · have hlt' : ¬ (k : Int) < xs.length := by omega
          have HAL : Hid (xs.all (okV l.length) = true) := by
            have := hall.out
            rwa [List.take_of_length_le (by omega)] at this
          have HI2 : Hid (Ints (w1.drewN m) ap (idI (nats xs))) := by show Ints _ _ _; rw [nats_id HAL.out]; exact HI1.out.on (below_drewN _ _ _)
          have HLG := Lib.hid (long_any n a l cap s t (nats xs) ap c (w1.drewN m) HG.out (nats_mem HAL.out) (by rw [nats_len]; omega) ((HR.out.on b1).on (below_drewN _ _ _)) HI2.out)
          rw [nats_len] at HLG
          obtain ⟨Q, HQ⟩ := named (lrun l s 0 (nats xs))
          have HR4 : Hid ((if lrB Q t = true then (lrD Q, (0 : Int)) else (0, 4)) = R) := by
            have := HR3.out
            rwa [if_pos HAL.out, HQ.out] at this
          rw [HQ.out] at HLG
          clear HI2
          cases hb : lrB Q t with
          | true =>
            rw [hb] at HLG
            obtain ⟨d, HDD⟩ := named (lrD Q)
            rw [HDD.out] at HLG
            obtain rfl : R = (d, 0) := by rw [← HR4.out, if_pos hb, HDD.out]
            clear hb HR4
            go_wp2_with fail
            refine HLG.out.mono ?_
            rintro e w2 ⟨rfl, hb2⟩
            go_wp2_with fail
            go_ret2
            exact ⟨rfl, (b1.trans (below_drewN _ _ _)).trans (hb2.mono b1.size)⟩
          | false =>
            rw [hb] at HLG
            obtain rfl : R = (0, 4) := by rw [← HR4.out, if_neg (by simp [hb])]
            generalize lrD Q = d at *
            clear hb HR4
            go_wp2_with fail
            refine HLG.out.mono ?_
            rintro e w2 ⟨rfl, hb2⟩
            go_wp2_with fail
            go_ret2
            exact ⟨rfl, (b1.trans (below_drewN _ _ _)).trans (hb2.mono b1.size)⟩
  · obtain rfl : R = (0, nearE N l [s, t]) := by rw [← HRR.out]; unfold lenR; rw [if_neg hE]
    have hE' : (nearE N l [s, t] == 0) = false := beq_eq_false_iff_ne.2 hE
    clear HRR
    generalize nearE N l [s, t] = E at *
    clear hE
    go_enter Try.func29, Try.ntmps29
    go_wp2_with fail
    refine HCK.out.mono ?_
    rintro e w1 ⟨rfl, hb1⟩
    have b1 : Below w.heap.size w w1 := hb0.trans (hb1.mono hb0.size)
    go_wp2_with fail
    go_ret2
    exact ⟨rfl, b1⟩
theorem StillI.same {w w' : World} {g : Nat} {xs : List Int} (h : StillI w g xs) (hs : w'.heap[g]? = w.heap[g]?) (hl : g < w'.heap.size) : StillI w' g xs := ⟨hl, fun j hj => (World.cell?_of_block (a := ⟨g, j, none⟩) hs).trans (h.2 j hj)⟩
theorem Still.put {w w' : World} {g : Nat} {l : List A} (h : Still w g l) (hs : w'.heap[g]? = w.heap[g]?) : Still w' g l := fun j hj => by
  obtain ⟨a, b, c⟩ := h j hj
  exact ⟨(World.cell?_of_block (a := ⟨g, j * 3, none⟩) hs).trans a, (World.cell?_of_block (a := ⟨g, j * 3 + 1, none⟩) hs).trans b, (World.cell?_of_block (a := ⟨g, j * 3 + 2, none⟩) hs).trans c⟩
theorem tb0 {W w1 : World} {o : Obj} (h : Below (W.alloc o).heap.size (W.alloc o) w1) : w1.heap[W.heap.size]? = some o :=
  (h.block W.heap.size (by simp)).trans (heap_top W o)
theorem below_set2 {W v : World} (h : Below W.heap.size W v) {cb : Nat} (hc : W.heap.size ≤ cb) (u1 u2 : Value) : Below W.heap.size W ((v.setCell ⟨cb, 0, none⟩ u1).setCell ⟨cb, 1, none⟩ u2) := (h.setCell (p := ⟨cb, 0, none⟩) hc u1).setCell (p := ⟨cb, 1, none⟩) hc u2
set_option maxHeartbeats 3200000 in
set_option maxRecDepth 100000 in
theorem law_lengths (N : Int) (a : Option Addr) (l : List A) (cap : Nat) (s t : Int) (xa : Option Addr) (xs : List Int) (xc : Nat) (w : World) (hlen : l.length * 24 ≤ 140737488351232) (hn : a = none → l = [] ∧ cap = 0) (hr : Arcs w a l) (hw : ∀ x ∈ l, 0 ≤ x.w ∧ x.w < 4294967296) (hxn : xa = none → xs = [] ∧ xc = 0) (hxl : xs.length * 8 ≤ 140737488351232) (hx : Ints w xa xs) :
    Calls Try.prog 6 #[.agg #[.int .i64 N, .slice a l.length cap], .agg #[.int .i64 s, .int .i64 t, .slice xa xs.length xc]] w fun e w' => e = .returned (.bool true) ∧ Below w.heap.size w w' := by
  have hl : l.length ≤ 9223372036854775807 := by omega
  have hb0 : Below w.heap.size w ((w.alloc (.cells #[.int .i64 N, .slice a l.length cap] 24)).alloc (.cells #[.int .i64 s, .int .i64 t, .slice xa xs.length xc] 50)) := ((Below.refl _ _).alloc (Nat.le_refl _) _).alloc (by simp) _
  have hg : ((w.alloc (.cells #[.int .i64 N, .slice a l.length cap] 24)).alloc (.cells #[.int .i64 s, .int .i64 t, .slice xa xs.length xc] 50)).heap[w.heap.size]? = some (.cells #[.int .i64 N, .slice a l.length cap] 24) := (Below.heap_alloc _ _ _ (by simp)).trans (heap_top w _)
  have hq := heap_top_at (w.alloc (.cells #[.int .i64 N, .slice a l.length cap] 24)) (.cells #[.int .i64 s, .int .i64 t, .slice xa xs.length xc] 50) (w.heap.size + 1) (by simp)
  have HR := Lib.hid hr
  have HW := Lib.hid hw
  have HNN := Lib.hid hn
  have HX := Lib.hid hx
  have HXN := Lib.hid hxn
  clear hr hw hn hx hxn
  go_enter Try.func6, Try.ntmps6
  go_wp2_with fail
  generalize (w.alloc (.cells #[.int .i64 N, .slice a l.length cap] 24)).alloc (.cells #[.int .i64 s, .int .i64 t, .slice xa xs.length xc] 50) = W at *
  go_cut [5, 6] (fun s5 s6 wc => ∃ g c gx cx cb, s5 = .pointer (some ⟨cb, 0, none⟩) ∧ s6 = .slice (some ⟨gx, 0, none⟩) xs.length cx ∧ wc.heap[cb]? = some (.cells #[.int .i64 N, .slice (some ⟨g, 0, none⟩) l.length c] 24) ∧ l.length < c ∧ c ≤ 9223372036854775807 ∧ xs.length < cx ∧ Still wc g l ∧ StillI wc gx xs ∧ Below W.heap.size W wc)
  case first =>
    obtain ⟨⟨g0, g1⟩, -⟩ := two_cells hg
    obtain ⟨q0, q1, q2⟩ := three_cells hq
    have G0 := Lib.hid g0
    have G1 := Lib.hid g1
    have Q2 := Lib.hid q2
    have S0 := Lib.hid (lt_of_block hg)
    have S1 := Lib.hid (lt_of_block hq)
    have HLE := Lib.hid (fun (w' : World) (hb : Below W.heap.size W w') => lend_any N a l cap w' hlen HNN.out (HR.out.on (hb0.trans (hb.mono hb0.size))))
    have HLI := Lib.hid (fun (w' : World) (hb : Below W.heap.size W w') => lendI_any xa xs xc w' hxl HXN.out (HX.out.on (hb0.trans (hb.mono hb0.size))))
    have n0 : w.heap.size ≠ W.heap.size := Nat.ne_of_lt S0.out
    have n1 : w.heap.size + 1 ≠ W.heap.size := Nat.ne_of_lt S1.out
    have n2 := n0.symm
    have n3 := n1.symm
    clear hg hq hb0 HR HX HNN HXN HW
    go_region_held3 (fun w' => w'.cell? ⟨w.heap.size, 0, none⟩ = some (.int .i64 N) ∧ w'.cell? ⟨w.heap.size, 1, none⟩ = some (.slice a l.length cap) ∧ w'.cell? ⟨w.heap.size + 1, 2, none⟩ = some (.slice xa xs.length xc)) (go_keep) (first
      | (go_at_call 11; refine (HLE.out _ (by first | exact BI | exact BI.drew | exact BI.alloc BI.size _ | exact below_set2 BI (Nat.le_refl _) _ _ | exact BI.drew.alloc BI.drew.size _ | exact (BI.drew.alloc BI.drew.size _).drew | exact below_set2 BI.drew (Nat.le_refl _) _ _ | exact (below_set2 BI (Nat.le_refl _) _ _).drew | exact (Below.refl W.heap.size W) | exact (Below.refl W.heap.size W).drew | exact (Below.refl W.heap.size W).alloc (Below.refl W.heap.size W).size _ | exact below_set2 (Below.refl W.heap.size W) (Nat.le_refl _) _ _ | exact (Below.refl W.heap.size W).drew.alloc (Below.refl W.heap.size W).drew.size _ | exact ((Below.refl W.heap.size W).drew.alloc (Below.refl W.heap.size W).drew.size _).drew | exact below_set2 (Below.refl W.heap.size W).drew (Nat.le_refl _) _ _ | exact (below_set2 (Below.refl W.heap.size W) (Nat.le_refl _) _ _).drew)).mono ?_; rintro e wL ⟨g, c, rfl, hc, hcm, hoL, hbL⟩; have BL : Below W.heap.size W wL := below_base hbL (by first | exact BI | exact BI.drew | exact BI.alloc BI.size _ | exact below_set2 BI (Nat.le_refl _) _ _ | exact BI.drew.alloc BI.drew.size _ | exact (BI.drew.alloc BI.drew.size _).drew | exact below_set2 BI.drew (Nat.le_refl _) _ _ | exact (below_set2 BI (Nat.le_refl _) _ _).drew | exact (Below.refl W.heap.size W) | exact (Below.refl W.heap.size W).drew | exact (Below.refl W.heap.size W).alloc (Below.refl W.heap.size W).size _ | exact below_set2 (Below.refl W.heap.size W) (Nat.le_refl _) _ _ | exact (Below.refl W.heap.size W).drew.alloc (Below.refl W.heap.size W).drew.size _ | exact ((Below.refl W.heap.size W).drew.alloc (Below.refl W.heap.size W).drew.size _).drew | exact below_set2 (Below.refl W.heap.size W).drew (Nat.le_refl _) _ _ | exact (below_set2 (Below.refl W.heap.size W) (Nat.le_refl _) _ _).drew); have yL0 := (BL.cell (p := ⟨w.heap.size, 0, none⟩) S0.out).trans G0.out; have yL1 := (BL.cell (p := ⟨w.heap.size, 1, none⟩) S0.out).trans G1.out; have yL2 := (BL.cell (p := ⟨w.heap.size + 1, 2, none⟩) S1.out).trans Q2.out; have nL0 : w.heap.size ≠ wL.heap.size := Nat.ne_of_lt (Nat.lt_of_lt_of_le S0.out BL.size); have nL1 : w.heap.size + 1 ≠ wL.heap.size := Nat.ne_of_lt (Nat.lt_of_lt_of_le S1.out BL.size); have nL2 := nL0.symm; have nL3 := nL1.symm; first | (have zA : wL.heap[W.heap.size]? = some (.cells #[.int .i64 0, .slice none 0 0] 24) := tb1 hbL; obtain ⟨⟨z0, z1⟩, zf0, zf1⟩ := two_cells zA; have zn := lt_of_block zA) | (have zA : wL.heap[wI.heap.size]? = some (.cells #[.int .i64 0, .slice none 0 0] 24) := tb0 hbL; obtain ⟨⟨z0, z1⟩, zf0, zf1⟩ := two_cells zA; have zn := lt_of_block zA) | (have zB : wL.heap[wI.heap.size]? = some (.cells #[.int .i64 N, .slice (some ⟨g, 0, none⟩) l.length c] 24) := tb0 hbL) | (have zA := (hbL.block _ (lt_of_block zA)).trans zA; obtain ⟨⟨z0, z1⟩, zf0, zf1⟩ := two_cells zA; have zn := lt_of_block zA) | skip)
      | (go_at_call 27; refine (HLI.out _ (by first | exact BL | exact BL.drew | exact BL.alloc BL.size _ | exact below_set2 BL (Nat.le_refl _) _ _ | exact BL.drew.alloc BL.drew.size _ | exact (BL.drew.alloc BL.drew.size _).drew | exact below_set2 BL.drew (Nat.le_refl _) _ _ | exact (below_set2 BL (Nat.le_refl _) _ _).drew | exact (Below.refl W.heap.size W) | exact (Below.refl W.heap.size W).drew | exact (Below.refl W.heap.size W).alloc (Below.refl W.heap.size W).size _ | exact below_set2 (Below.refl W.heap.size W) (Nat.le_refl _) _ _ | exact (Below.refl W.heap.size W).drew.alloc (Below.refl W.heap.size W).drew.size _ | exact ((Below.refl W.heap.size W).drew.alloc (Below.refl W.heap.size W).drew.size _).drew | exact below_set2 (Below.refl W.heap.size W).drew (Nat.le_refl _) _ _ | exact (below_set2 (Below.refl W.heap.size W) (Nat.le_refl _) _ _).drew)).mono ?_; rintro e wI ⟨gx, cx, rfl, hcx, hcmx, hoI, hbI⟩; have BI : Below W.heap.size W wI := below_base hbI (by first | exact BL | exact BL.drew | exact BL.alloc BL.size _ | exact below_set2 BL (Nat.le_refl _) _ _ | exact BL.drew.alloc BL.drew.size _ | exact (BL.drew.alloc BL.drew.size _).drew | exact below_set2 BL.drew (Nat.le_refl _) _ _ | exact (below_set2 BL (Nat.le_refl _) _ _).drew | exact (Below.refl W.heap.size W) | exact (Below.refl W.heap.size W).drew | exact (Below.refl W.heap.size W).alloc (Below.refl W.heap.size W).size _ | exact below_set2 (Below.refl W.heap.size W) (Nat.le_refl _) _ _ | exact (Below.refl W.heap.size W).drew.alloc (Below.refl W.heap.size W).drew.size _ | exact ((Below.refl W.heap.size W).drew.alloc (Below.refl W.heap.size W).drew.size _).drew | exact below_set2 (Below.refl W.heap.size W).drew (Nat.le_refl _) _ _ | exact (below_set2 (Below.refl W.heap.size W) (Nat.le_refl _) _ _).drew); have yI0 := (BI.cell (p := ⟨w.heap.size, 0, none⟩) S0.out).trans G0.out; have yI1 := (BI.cell (p := ⟨w.heap.size, 1, none⟩) S0.out).trans G1.out; have yI2 := (BI.cell (p := ⟨w.heap.size + 1, 2, none⟩) S1.out).trans Q2.out; have nI0 : w.heap.size ≠ wI.heap.size := Nat.ne_of_lt (Nat.lt_of_lt_of_le S0.out BI.size); have nI1 : w.heap.size + 1 ≠ wI.heap.size := Nat.ne_of_lt (Nat.lt_of_lt_of_le S1.out BI.size); have nI2 := nI0.symm; have nI3 := nI1.symm; first | (have zA : wI.heap[W.heap.size]? = some (.cells #[.int .i64 0, .slice none 0 0] 24) := tb1 hbI; obtain ⟨⟨z0, z1⟩, zf0, zf1⟩ := two_cells zA; have zn := lt_of_block zA) | (have zA : wI.heap[wL.heap.size]? = some (.cells #[.int .i64 0, .slice none 0 0] 24) := tb0 hbI; obtain ⟨⟨z0, z1⟩, zf0, zf1⟩ := two_cells zA; have zn := lt_of_block zA) | (have zB : wI.heap[wL.heap.size]? = some (.cells #[.int .i64 N, .slice (some ⟨g, 0, none⟩) l.length c] 24) := tb0 hbI) | (have zA := (hbI.block _ (lt_of_block zA)).trans zA; obtain ⟨⟨z0, z1⟩, zf0, zf1⟩ := two_cells zA; have zn := lt_of_block zA) | skip))
    · go_wp2_with fail
      go_meet
      case rel => exact ⟨g, c, gx, cx, wI.heap.size, rfl, rfl, heap_top wI _, hc, hcm, hcx, ((still_own hoL).on hbI).on ((Below.refl _ _).alloc (Nat.le_refl _) _), (stillI_own hoI).on ((Below.refl _ _).alloc (Nat.le_refl _) _), BI.alloc BI.size _⟩
    · go_wp2_with fail
      go_meet
      case rel =>
        have e1 : (wL.alloc (.cells #[.int .i64 0, .slice none 0 0] 24)).heap.size ≤ gx := (hoI.lt gx rfl).1
        rw [World.size_alloc] at e1
        have e2 := (hoL.lt g rfl).2
        have e3 := (hoI.lt gx rfl).2
        have hLI : Below wL.heap.size wL wI := ((Below.refl wL.heap.size wL).alloc (Nat.le_refl _) _).trans (hbI.mono (by simp))
        have sI := (stillI_own hoI).same (w' := (wI.setCell ⟨wL.heap.size, 0, none⟩ (.int .i64 N)).setCell ⟨wL.heap.size, 1, none⟩ (.slice (some ⟨g, 0, none⟩) l.length c)) (set2_other (by omega)) (by simp [World.setCell]; exact e3)
        have sL := Still.put ((still_own hoL).on hLI) (w' := (wI.setCell ⟨wL.heap.size, 0, none⟩ (.int .i64 N)).setCell ⟨wL.heap.size, 1, none⟩ (.slice (some ⟨g, 0, none⟩) l.length c)) (set2_other (by omega))
        exact ⟨g, c, gx, cx, wL.heap.size, rfl, rfl, set2_same zA, hc, hcm, hcx, sL, sI, below_set2 BI BL.size _ _⟩
    · go_wp2_with fail
      go_meet
      case rel =>
        have e0 : (W.alloc (.cells #[.int .i64 0, .slice none 0 0] 24)).drew.heap.size ≤ g := (hoL.lt g rfl).1
        have e0' : W.heap.size + 1 ≤ g := by rw [show (W.alloc (.cells #[.int .i64 0, .slice none 0 0] 24)).drew.heap.size = W.heap.size + 1 by show (W.alloc _).heap.size = _; simp] at e0; exact e0
        have e1 : wL.heap.size ≤ gx := (hoI.lt gx rfl).1
        have e2 := (hoL.lt g rfl).2
        have e3 := (hoI.lt gx rfl).2
        have sI := (stillI_own hoI).same (w' := (wI.setCell ⟨W.heap.size, 0, none⟩ (.int .i64 N)).setCell ⟨W.heap.size, 1, none⟩ (.slice (some ⟨g, 0, none⟩) l.length c)) (set2_other (by omega)) (by simp [World.setCell]; exact e3)
        have sL := Still.put ((still_own hoL).on hbI) (w' := (wI.setCell ⟨W.heap.size, 0, none⟩ (.int .i64 N)).setCell ⟨W.heap.size, 1, none⟩ (.slice (some ⟨g, 0, none⟩) l.length c)) (set2_other (by omega))
        exact ⟨g, c, gx, cx, W.heap.size, rfl, rfl, set2_same zA, hc, hcm, hcx, sL, sI, below_set2 BI (Nat.le_refl _) _ _⟩
  case rest =>
    obtain ⟨g, c, gx, cx, cb, hs5, hs6, hh, hc, hcm, hcx, sL, sI, bc⟩ := hcut
    subst hs5 hs6
    have b1 : Below w.heap.size w wc := hb0.trans (bc.mono hb0.size)
    have hg1 := (bc.block _ (lt_of_block hg)).trans hg
    have hq1 := (bc.block _ (lt_of_block hq)).trans hq
    have HS1 := Lib.hid sL
    have HI1 := Lib.hid sI
    obtain ⟨⟨h0, h1⟩, -⟩ := two_cells hh
    obtain ⟨q0, q1, q2⟩ := three_cells hq1
    have HC := Lib.hid (length_any N (some ⟨g, 0, none⟩) l c s t (some ⟨gx, 0, none⟩) xs cx wc hl (by omega) HW.out sL.arcs sI.ints)
    obtain ⟨R, HRR⟩ := named (lenR N l s t xs)
    rw [HRR.out] at HC
    obtain ⟨d, E⟩ := R
    clear bc hb0 hg hq sL sI
    go_wp2_with fail
    refine HC.out.mono ?_
    rintro e w2 ⟨rfl, hb2⟩
    have hh2 := (hb2.block _ (lt_of_block hh)).trans hh
    have hg2 := (hb2.block _ (lt_of_block hg1)).trans hg1
    have hq2 := (hb2.block _ (lt_of_block hq1)).trans hq1
    have b2 := b1.trans (hb2.mono b1.size)
    have HS2 := Lib.hid (HS1.out.on hb2)
    have HI2 := Lib.hid (HI1.out.on hb2)
    clear h0 h1 q0 q1 q2 hh hg1 hq1 HC hb2 HS1 HI1
    obtain ⟨⟨g0, g1⟩, -⟩ := two_cells hg2
    obtain ⟨q0, q1, q2⟩ := three_cells hq2
    have HC := Lib.hid (rlength_any N a l cap s t xa xs xc w2 hl (by omega) HW.out (HR.out.on b2) (HX.out.on b2))
    rw [HRR.out] at HC
    go_wp2_with fail
    refine HC.out.mono ?_
    rintro e w3 ⟨rfl, hb3⟩
    have hh3 := (hb3.block _ (lt_of_block hh2)).trans hh2
    have hg3 := (hb3.block _ (lt_of_block hg2)).trans hg2
    have hq3 := (hb3.block _ (lt_of_block hq2)).trans hq2
    have b3 := b2.trans (hb3.mono b2.size)
    have HS3 := Lib.hid (HS2.out.on hb3)
    have HI3 := Lib.hid (HI2.out.on hb3)
    clear g0 g1 q0 q1 q2 hh2 hg2 hq2 HC hb3 HS2 HI2
    obtain ⟨⟨g0, g1⟩, -⟩ := two_cells hg3
    obtain ⟨⟨h0, h1⟩, -⟩ := two_cells hh3
    have HC := Lib.hid (kept_any N g c a l cap w3 hlen hc hcm HS3.out (HR.out.on b3))
    go_wp2_with fail
    refine HC.out.mono ?_
    rintro e w4 ⟨rfl, hb4⟩
    have hq4 := (hb4.block _ (lt_of_block hq3)).trans hq3
    have b4 := b3.trans (hb4.mono b3.size)
    have HI4 := Lib.hid (HI3.out.on hb4)
    clear g0 g1 h0 h1 HC hq3
    obtain ⟨q0, q1, q2⟩ := three_cells hq4
    have HC := Lib.hid (keptI_any gx cx xa xs xc w4 hxl hcx HI4.out (HX.out.on b4))
    go_wp2_with fail
    refine HC.out.mono ?_
    rintro e w5 ⟨rfl, hb5⟩
    have b5 := b4.trans (hb5.mono b4.size)
    have HWK := Lib.hid (works_any w5)
    clear q0 q1 q2 HC
    go_wp2_with fail
    refine HWK.out.mono ?_
    rintro e w6 ⟨rfl, hb6⟩
    go_wp2_with fail
    go_ret
    exact ⟨rfl, b5.trans (hb6.mono b5.size)⟩
end Go.Proofs.Ytomlmphdnoempaa
namespace Go.Proofs.Ytomlmphdnoempaa.lengths
open Go.ChangeShapes Go.WideShapes Go.ChangeAt Go.RowKit
theorem own : ownKnob Try.prog.godebug = none := by kernel_rfl
theorem laidOut : laidOutB Try.prog = true := by kernel_rfl
set_option maxRecDepth 100000 in
theorem lifted (os : Os) (started : os.Started) (H : Type) (enc : TypeId × Value → H) :
    ReturnsInHanded {} Try.checked os 6 .any (Rows.nearLengthsSpec.pre6 enc Try.prog Try.f6 Rows.nearLengthsRow.domain false) (Rows.nearLengthsSpec.post enc Try.prog Try.f6 false true false false) := by
  refine returnsInHanded_of_change_sized (C := Try.checked) own started (by kernel_rfl) Try.func6
    (ChangeSpec.witness6 (enc := enc) (C := Try.checked) false ⟨#[], #[.agg #[.int .i64 0, .slice none 0 0], .agg #[.int .i64 0, .int .i64 0, .slice none 0 0]], []⟩ 8 (by kernel_rfl) (by kernel_rfl) (by kernel_rfl) (by kernel_rfl)) ?_
  intro W base args ds gs before hval0 hW _ hsz0 _
  have hval : ∀ (j : Nat) t v, Try.f6.params[j]? = some t → args[j]? = some v → Value.okWide Try.prog W .any base t v := hval0
  have hW' := hW
  obtain ⟨p, q, hA0, hV, rfl, _, _⟩ := hW
  have hA : DataW.TrodAll enc Try.prog W 0 (fun _ => true) true Try.f6.params.toList args.toList ds p := hA0
  have hsz : (DataW.weightsEach Try.prog (Try.f6.params.toList ++ Rows.nearLengthsSpec.plain.varTypes Try.prog) (ds ++ gs)).all (· ≤ reachBytes) = true := hsz0
  rw [Try.params6] at hA hval hsz
  obtain ⟨v0, vs0, d0, ds0, p0, q0, hargs, rfl, rfl, h0, r0⟩ := trodAll_cons hA
  obtain ⟨v1, vs1, d1, ds1, p1, q1, rfl, rfl, rfl, h1, r1⟩ := trodAll_cons r0
  obtain ⟨rfl, rfl, rfl⟩ := trodAll_nil r1
  obtain rfl : args = #[v0, v1] := by cases args; simp_all
  obtain ⟨rfl, rfl⟩ := trodVars_none hV
  have lt0 : ∀ x ∈ p0, x.block < W.heap.size := by obtain ⟨m, hm⟩ := h0; exact DataW.trod_lt m _ _ _ hm
  obtain ⟨N0, a0, cap0, l0, w0⟩ := graph_in (hval 0 24 v0 rfl rfl) h0 hsz (j := 0) rfl rfl
  have lt1 : ∀ x ∈ p1, x.block < W.heap.size := by obtain ⟨m, hm⟩ := h1; exact DataW.trod_lt m _ _ _ hm
  obtain ⟨s1, t1, a1, cap1, l1, w1⟩ := x_in (hval 1 50 v1 rfl rfl) h1 hsz (j := 1) rfl rfl
  clear hA0 hval0
  obtain ⟨rfl, ar0, n0, sz0, wt0⟩ := w0
  obtain ⟨rfl, ar1, nn1, sz1⟩ := w1
  refine (law_lengths N0 a0 l0 cap0 s1 t1 a1 l1 cap1 W sz0 n0 ar0 wt0 nn1 sz1 ar1).mono fun e W' ⟨he, hb⟩ => ?_
  subst he
  exact ⟨_, rfl, _, _, _, [], _, [], hW', trodAll_mk1 (shut_bool Try.underlying4 _), (trodAll_cons_mk (Below.trod laidOut (by kernel_rfl) (of_decide_eq_true (by kernel_rfl)) h0 hb lt0) (trodAll_cons_mk (Below.trod laidOut (by kernel_rfl) (of_decide_eq_true (by kernel_rfl)) h1 hb lt1) trodAll_mk0)), rfl, hb.frame _, fun h => by cases h⟩
theorem row_holds : Rows.NearLengthsSaid :=
  OpenClaim.holds_of_wide 6 Try.f6 rfl rfl rfl rfl rfl rfl rfl ⟨rfl, rfl, rfl, rfl, rfl⟩ rfl rfl rfl rfl rfl (by kernel_rfl) Try.func6 (by kernel_rfl)
    (of_decide_eq_true (by kernel_rfl)) (by unfold Func.isWrapper; first | (rw [if_pos (by decide +kernel)]; kernel_rfl) | (rw [if_neg (by decide +kernel)]; exact ⟨rfl, rfl⟩))
    (fun os started H enc _ => lifted os started H enc)
end Go.Proofs.Ytomlmphdnoempaa.lengths
namespace Go.Proofs.Ytomlmphdnoempaa
theorem nearLengths_holds : Rows.NearLengthsSaid := lengths.row_holds
#print axioms nearLengths_holds
end Go.Proofs.Ytomlmphdnoempaa
