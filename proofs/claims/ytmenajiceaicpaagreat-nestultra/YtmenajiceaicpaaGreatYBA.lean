import Derived.Test.YtmenajiceaicpaaGreatYAZ
import Derived.Test.YtmenajiceaicpaaGreatYNE
open Go.Lib (hid)
namespace Go.Proofs.YtmenajiceaicpaaGreat.Ult
open Go.RowKit
theorem apt_le (cs : List (List Int)) (u v : Nat) : ∀ m, apt cs u v m ≤ m
 | 0 => Nat.le_refl _
 | m + 1 => by
   unfold apt
   split
   ·exact Nat.le_refl _
   ·exact Nat.le_succ_of_le (apt_le cs u v m)
theorem apt_self (cs : List (List Int)) (u : Nat) (m : Nat) : apt cs u u m = 0 := apt_none m (fun _ _ => rfl)
theorem apt_comm (cs : List (List Int)) (u v : Nat) : ∀ m, apt cs u v m = apt cs v u m
 | 0 => rfl
 | m + 1 => by
   unfold apt
   rw [apt_comm cs u v m]
   by_cases h : (lvl cs m).getD u 0 = (lvl cs m).getD v 0
   ·rw [if_neg (fun e => e h), if_neg (fun e => e h.symm)]
   ·rw [if_pos h, if_pos (fun e => h e.symm)]
theorem apt_ultra (cs : List (List Int)) (u v x : Nat) : ∀ m, apt cs u v m ≤ max (apt cs u x m) (apt cs x v m)
 | 0 => Nat.zero_le _
 | m + 1 => by
   have ih := apt_ultra cs u v x m
   unfold apt
   by_cases h1 : (lvl cs m).getD u 0 = (lvl cs m).getD x 0
   ·by_cases h2 : (lvl cs m).getD x 0 = (lvl cs m).getD v 0
    ·rw [if_neg (fun e => e (h1.trans h2)), if_neg (fun e => e h1), if_neg (fun e => e h2)]
     exact ih
    ·rw [if_pos h2]
     have : (if (lvl cs m).getD u 0 ≠ (lvl cs m).getD v 0 then m + 1 else apt cs u v m) ≤ m + 1 := by
      split
      ·exact Nat.le_refl _
      ·exact Nat.le_succ_of_le (apt_le cs u v m)
     omega
   ·rw [if_pos h1]
    have : (if (lvl cs m).getD u 0 ≠ (lvl cs m).getD v 0 then m + 1 else apt cs u v m) ≤ m + 1 := by
     split
     ·exact Nat.le_refl _
     ·exact Nat.le_succ_of_le (apt_le cs u v m)
    omega
theorem dm {n x y : Nat} (hy : y < n) : (x * n + y) / n = x ∧ (x * n + y) % n = y := by
 have h0 : 0 < n := by omega
 constructor
 ·rw [Nat.mul_comm, Nat.mul_add_div h0, Nat.div_eq_of_lt hy, Nat.add_zero]
 ·rw [Nat.mul_comm, Nat.mul_add_mod, Nat.mod_eq_of_lt hy]
theorem mul_lt {n x y : Nat} (hx : x < n) (hy : y < n) : x * n + y < n * n := by
 have : (x + 1) * n ≤ n * n := Nat.mul_le_mul_right n hx
 rw [Nat.add_mul, Nat.one_mul] at this
 omega
def tbU (AP : Nat → Nat → Nat) (n t i : Nat) : Value := .int .i64 (if i < t then (AP (i / n) (i % n) : Int) else 0)
theorem tbU_step (AP : Nat → Nat → Nat) {n u v : Nat} (hv : v < n) : ∀ i, updV (tbU AP n (u * n + v)) (u * n + v) (.int .i64 (AP u v : Nat)) i = tbU AP n (u * n + v + 1) i := fun i => by
 by_cases e : i = u * n + v
 ·subst e
  rw [updV_self]
  unfold tbU
  rw [if_pos (by omega), (dm hv).1, (dm hv).2]
 ·rw [updV_ne _ _ e]
  unfold tbU
  by_cases h : i < u * n + v
  ·rw [if_pos h, if_pos (by omega)]
  ·rw [if_neg h, if_neg (by omega)]
theorem tbU_at (AP : Nat → Nat → Nat) {n u v : Nat} (hu : u < n) (hv : v < n) : tbU AP n (n * n) (u * n + v) = .int .i64 (AP u v : Nat) := by
 unfold tbU
 rw [if_pos (mul_lt hu hv), (dm hv).1, (dm hv).2]
theorem two_below {p : Nat} {w w1 : World} (h : Below p w w1) {b : Nat} (hb : p ≤ b) (k : Nat) (u : Value) : Below p w (w1.setCell ⟨b, k, none⟩ u) := h.setCell (p := ⟨b, k, none⟩) hb u
set_option maxRecDepth 100000 in
set_option maxHeartbeats 3200000 in
theorem ultra_any (N : Int) (a : Option Addr) (l : List A) (cap : Nat) (ba : Option Addr) (bs : List Int) (bc : Nat) (ca : Option Addr) (C : List Cl) (cc : Nat) (w : World) (hlen : l.length * 24 ≤ 140737488351232) (hbl : bs.length * 8 ≤ 140737488351232) (hr : Arcs w a l) (hi : Ints w ba bs) (hR : Rws w ca C) :
  Calls Tryz.prog 7 #[.agg #[.int .i64 N, .slice a l.length cap], .agg #[.slice ba bs.length bc, .slice ca C.length cc]] w fun e w' => e = .returned (.bool true) ∧ Below w.heap.size w w' := by
 have hl : l.length ≤ 9223372036854775807 := by omega
 have hbl' : bs.length ≤ 9223372036854775807 := by omega
 obtain ⟨hg0, hg1, hb0, hsz⟩ := top2 w (.cells #[.int .i64 N, .slice a l.length cap] 24) (.cells #[.slice ba bs.length bc, .slice ca C.length cc] 28)
 have HAR := hid hr
 have HI := hid hi
 have HRR := hid hR
 have HB0 := hid hb0
 have HG0 := hid hg0
 have HG1 := hid hg1
 clear hr hi hR hb0 hg0 hg1
 generalize hp : w.heap.size = p at *
 go_enter Tryz.func7, Tryz.ntmps7
 go_wp2_with fail
 generalize hW : (w.alloc (.cells #[.int .i64 N, .slice a l.length cap] 24)).alloc (.cells #[.slice ba bs.length bc, .slice ca C.length cc] 28) = W at *
 clear hW
 refine (works_any W).mono ?_
 rintro e w1 ⟨rfl, hb1⟩
 have HB1 := hid (below_tr HB0.out hp hb1)
 have hz1 := hb1.size
 have HK0 := hid ((hb1.block p (by omega)).trans HG0.out)
 have HK1 := hid ((hb1.block (p + 1) (by omega)).trans HG1.out)
 obtain ⟨⟨g0, g1⟩, _⟩ := two_cells HK0.out
 obtain ⟨⟨g2, g3⟩, _⟩ := two_cells HK1.out
 clear hb1 HB0 HG0 HG1
 have HCK := hid (ncheck_any N a l cap ba bs bc ca C cc w1 hl hbl' (HAR.out.on (by rw [hp]; exact HB1.out)) (HI.out.on (by rw [hp]; exact HB1.out)) (HRR.out.on (by rw [hp]; exact HB1.out)))
 obtain ⟨E, HE⟩ := named (nsE N l bs (csl C))
 rw [HE.out] at HCK
 generalize nsW N l bs (csl C) = nw at *
 go_wp2_with fail
 refine HCK.out.mono ?_
 rintro e w2 ⟨rfl, hb2⟩
 have HB2 := hid (below_tr HB1.out hp hb2)
 have hz2 := hb2.size
 have HM0 := hid ((hb2.block p (by omega)).trans HK0.out)
 have HM1 := hid ((hb2.block (p + 1) (by omega)).trans HK1.out)
 clear hb2 g0 g1 g2 g3 HK0 HK1 HB1 HCK
 obtain ⟨⟨g0, g1⟩, _⟩ := two_cells HM0.out
 by_cases hE : E = 0
 ·subst hE
  have hNR := nsE_zero.1 HE.out
  obtain ⟨n, rfl⟩ : ∃ n : Nat, N = n := ⟨N.toNat, by have := (chk_zero hNR.1).1; omega⟩
  have HNR := hid hNR
  have h5 := hNR.2.2.1
  clear hNR
  go_wp2_with fail
  refine (large_any n a l cap w2 hl (HAR.out.on (by rw [hp]; exact HB2.out))).mono ?_
  rintro e w3 ⟨rfl, hb3⟩
  have HB3 := hid (below_tr HB2.out hp hb3)
  have hz3 := hb3.size
  have HN0 := hid ((hb3.block p (by omega)).trans HM0.out)
  have HN1 := hid ((hb3.block (p + 1) (by omega)).trans HM1.out)
  clear hb3 g0 g1 HM0 HM1 HB2
  obtain ⟨⟨g0, g1⟩, _⟩ := two_cells HN0.out
  obtain ⟨V, HV⟩ := named (lgB n l)
  rw [HV.out]
  cases V
  ·by_cases h20 : (20 : Int) < n
   ·go_wp2_with fail
    go_ret
    exact ⟨rfl, HB3.out⟩
   ·have h20' : decide ((20 : Int) < n) = false := decide_eq_false h20
    have hn20 : n ≤ 20 := by omega
    have HNN : Hid (n * n ≤ 400) := Nat.mul_le_mul hn20 hn20
    obtain ⟨nn, HNQ⟩ := named (n * n)
    rw [HNQ.out] at HNN
    have hnn4 : nn ≤ 400 := HNN.out
    have hmul : (n : Int) * (n : Int) = (nn : Int) := by rw [← HNQ.out]; simp
    obtain ⟨i3, hi3, hz3', hs3, hb3⟩ := info_parts info3
    have hmk : ∀ w, (Instr.makeSlice 25 (.int .i64 nn) (.int .i64 nn)).run Tryz.prog w = .ok (.slice (some ⟨w.heap.size, 0, none⟩) nn nn) (w.alloc (.cells ((List.range nn).map (fun _ => Value.int .i64 0)).toArray 3)) := fun w => by
     have := run_make (P := Tryz.prog) w 25 3 i3 (.int .i64 0) Tryz.underlying25 hi3 hz3' .i64 .i64 nn nn (by omega) (by omega) (by rw [hb3]; omega) (by omega)
     rw [this, Int.toNat_natCast, hs3, made_int]
    clear hi3 hz3' hs3 hb3
    clear i3
    have HA0 := hid ((Below.heap_alloc w3 (.cells ((List.range nn).map (fun _ => Value.int .i64 0)).toArray 3) p (by omega)).trans HN0.out)
    obtain ⟨⟨j0, j1⟩, _⟩ := two_cells HA0.out
    go_wp2_with fail
    have hbY : Below w3.heap.size w3 (w3.alloc (.cells ((List.range nn).map (fun _ => Value.int .i64 0)).toArray 3)) := (Below.refl _ _).alloc (Nat.le_refl _) _
    have HA1 := hid ((hbY.block (p + 1) (by omega)).trans HN1.out)
    have HBY := hid (below_tr HB3.out hp hbY)
    obtain ⟨AP, hAP⟩ : ∃ AP : Nat → Nat → Nat, ∀ u v, apt (csl C) u v bs.length = AP u v := ⟨_, fun _ _ => rfl⟩
    have HTB : Hid (TbV (w3.alloc (.cells ((List.range nn).map (fun _ => Value.int .i64 0)).toArray 3)) w3.heap.size nn 3 (tbU AP n 0)) := by
     have h0 : TbV (w3.alloc (.cells ((List.range nn).map (fun _ => Value.int .i64 0)).toArray 3)) w3.heap.size nn 3 (fun _ => Value.int .i64 0) := heap_top w3 _
     exact h0.congr (fun v _ => by unfold tbU; rw [if_neg (by omega)])
    have HAE : Hid (∀ u v, u < n → v < n → apE n l bs (csl C) u v = 0 ∧ apV n l bs (csl C) u v = AP u v) := fun u v hu hv => by
     have e : apE n l bs (csl C) u v = 0 := by unfold apE; rw [if_neg (by rw [nsE_zero.2 HNR.out]; simp), if_neg (by omega)]
     refine ⟨e, ?_⟩
     unfold apV
     rw [if_pos e, Int.toNat_natCast, Int.toNat_natCast]
     exact hAP u v
    have HLE : Hid (∀ u v, AP u v ≤ bs.length) := fun u v => by rw [← hAP]; exact apt_le _ _ _ _
    have HSE : Hid (∀ u, AP u u = 0) := fun u => by rw [← hAP]; exact apt_self _ _ _
    have HCO : Hid (∀ u v, AP u v = AP v u) := fun u v => by rw [← hAP, ← hAP]; exact apt_comm _ _ _ _
    have HUL : Hid (∀ u v x, AP u v ≤ max (AP u x) (AP x v)) := fun u v x => by rw [← hAP, ← hAP, ← hAP]; exact apt_ultra _ _ _ _ _
    have hzy : (w3.alloc (.cells ((List.range nn).map (fun _ => Value.int .i64 0)).toArray 3)).heap.size = w3.heap.size + 1 := by simp
    clear hAP hbY g0 g1 j0 j1 HNR HE hmk hmul
    generalize hq : w3.heap.size = q at *
    generalize hY : w3.alloc (.cells ((List.range nn).map (fun _ => Value.int .i64 0)).toArray 3) = Y at *
    clear hY HN0 HN1 HB3
    go_loopw [42] (fun i wr => ∃ u : Nat, u ≤ n ∧ i = .int .i64 u ∧ Hid (TbV wr q nn 3 (tbU AP n (u * n))) ∧ Hid (wr.heap[p]? = some (.cells #[.int .i64 n, .slice a l.length cap] 24)) ∧ Hid (wr.heap[p + 1]? = some (.cells #[.slice ba bs.length bc, .slice ca C.length cc] 28)) ∧ Hid (Below p w wr)) (fun i _ => n - (intOf i).toNat)
    case atStart => exact ⟨0, Nat.zero_le _, rfl, by rw [Nat.zero_mul]; exact HTB, HA0, HA1, HBY⟩
    case round =>
     obtain ⟨u, hu, rfl, HT, HP0, HP1, HBR⟩ := hrel
     obtain ⟨⟨g0, g1⟩, _⟩ := two_cells HP0.out
     by_cases hun : u < n
     ·have hun' : (u : Int) < n := by omega
      go_wp2_with fail
      go_loopw [47] (fun i ws => ∃ v : Nat, v ≤ n ∧ i = .int .i64 v ∧ Hid (TbV ws q nn 3 (tbU AP n (u * n + v))) ∧ Hid (ws.heap[p]? = some (.cells #[.int .i64 n, .slice a l.length cap] 24)) ∧ Hid (ws.heap[p + 1]? = some (.cells #[.slice ba bs.length bc, .slice ca C.length cc] 28)) ∧ Hid (Below p w ws)) (fun i _ => n - (intOf i).toNat)
      case atStart => exact ⟨0, Nat.zero_le _, rfl, HT, HP0, HP1, HBR⟩
      case round =>
       clear g0 g1 HT HP0 HP1 HBR
       obtain ⟨v, hv, rfl, HT, HP0, HP1, HBR⟩ := hrel
       obtain ⟨⟨g0, g1⟩, _⟩ := two_cells HP0.out
       obtain ⟨⟨g2, g3⟩, _⟩ := two_cells HP1.out
       have hwq : q < wr.heap.size := HT.out.lt
       by_cases hvn : v < n
       ·have hvn' : (v : Int) < n := by omega
        have HAP := hid (apart_any n a l cap ba bs bc ca C cc u v wr hl hbl' (HAR.out.on (by rw [hp]; exact HBR.out)) (HI.out.on (by rw [hp]; exact HBR.out)) (HRR.out.on (by rw [hp]; exact HBR.out)))
        rw [(HAE.out u v hun hvn).1, (HAE.out u v hun hvn).2] at HAP
        have hx5 : ¬ (bs.length : Int) < (AP u v : Nat) := by have := HLE.out u v; omega
        have hx0 : ¬ ((AP u v : Nat) : Int) < 0 := by omega
        have hxs : u = v → AP u v = 0 := fun e => by rw [e]; exact HSE.out v
        have hxm : AP u v ≤ 5 := by have := HLE.out u v; omega
        obtain ⟨m, HM⟩ := named (u * n)
        have hmu : (u : Int) * (n : Int) = (m : Int) := by rw [← HM.out]; simp
        have hmn : m + v < nn := by rw [← HM.out, ← HNQ.out]; exact mul_lt hun hvn
        have hmn' : (m : Int) + v < nn := by omega
        have HTS : Hid (∀ X, TbV X q nn 3 (tbU AP n (m + v)) → TbV (X.setCell ⟨q, m + v, none⟩ (.int .i64 (AP u v : Nat))) q nn 3 (tbU AP n (m + (v + 1)))) := fun X h => by
         have h2 := (h.set (m + v) (.int .i64 (AP u v : Nat))).congr (U := tbU AP n (m + (v + 1))) (fun i _ => by
          have := tbU_step AP (u := u) hvn i
          rw [HM.out] at this
          exact this)
         exact h2
        rw [HM.out] at HT
        obtain ⟨x, HX⟩ := named (AP u v)
        rw [HX.out] at HAP hx5 hx0 hxm HTS
        rw [HX.out] at hxs
        go_wp2_with fail
        refine HAP.out.mono ?_
        rintro e w5 ⟨rfl, hb5⟩
        have HT5 := hid (HT.out.same (hb5.block q hwq))
        have HB5 := hid (below_tr HBR.out hp hb5)
        have HQ0 := hid ((hb5.block p (by omega)).trans HP0.out)
        have HQ1 := hid ((hb5.block (p + 1) (by omega)).trans HP1.out)
        have hz5 := hb5.size
        clear hb5 g0 g1 g2 g3 HAP HT HP0 HP1 HBR
        obtain ⟨⟨g0, g1⟩, _⟩ := two_cells HQ0.out
        obtain ⟨⟨g2, g3⟩, _⟩ := two_cells HQ1.out
        have t0 := HT5.out.cell hmn
        have t1 := HT5.out.free (m + v)
        have HE1 : Hid (∀ y : Value, (w5.setCell ⟨q, m + v, none⟩ y).heap[p]? = some (.cells #[.int .i64 n, .slice a l.length cap] 24)) := fun y => (Below.heap_setCell _ _ _ _ (by show p ≠ q; omega)).trans HQ0.out
        have HE2 : Hid (∀ y : Value, (w5.setCell ⟨q, m + v, none⟩ y).heap[p + 1]? = some (.cells #[.slice ba bs.length bc, .slice ca C.length cc] 28)) := fun y => (Below.heap_setCell _ _ _ _ (by show p + 1 ≠ q; omega)).trans HQ1.out
        have HE3 : Hid (∀ y : Value, Below p w (w5.setCell ⟨q, m + v, none⟩ y)) := fun y => two_below HB5.out (by omega) _ _
        have hx5' : decide ((bs.length : Int) < (x : Int)) = false := decide_eq_false (by omega)
        have hx0' : decide ((x : Int) < 0) = false := decide_eq_false (by omega)
        by_cases huv : u = v
        ·have hx00 : x = 0 := hxs huv
         have hb1 : ((u : Int) == (v : Int)) = true := by simp; omega
         have hb2 : ((x : Int) != 0) = false := by simp; omega
         clear hxs huv hx00
         go_wp2_with fail
         exact ⟨⟨v + 1, hvn, by simp, by rw [HM.out]; exact HTS.out _ HT5.out, HE1.out _, HE2.out _, HE3.out _⟩, by simp [intOf]; omega⟩
        ·have hb1 : ((u : Int) == (v : Int)) = false := by simp; omega
         clear hxs
         go_wp2_with fail
         exact ⟨⟨v + 1, hvn, by simp, by rw [HM.out]; exact HTS.out _ HT5.out, HE1.out _, HE2.out _, HE3.out _⟩, by simp [intOf]; omega⟩
       ·have hvn' : ¬ (v : Int) < n := by omega
        have HT2 : Hid (TbV wr q nn 3 (tbU AP n ((u + 1) * n))) := by
         have e : (u + 1) * n = u * n + v := by rw [Nat.add_mul, Nat.one_mul]; omega
         show TbV wr q nn 3 (tbU AP n ((u + 1) * n))
         rw [e]
         exact HT.out
        go_wp2_with fail
        exact ⟨⟨u + 1, hun, by simp, HT2, HP0, HP1, HBR⟩, by simp [intOf]; omega⟩
     ·have hun' : ¬ (u : Int) < n := by omega
      have HT2 : Hid (TbV wr q nn 3 (tbU AP n (n * n))) := by
       have e : u = n := by omega
       rw [e] at HT
       exact HT
      have HBR9 := HBR
      have HP9 := HP0
      clear HT HTB HP1 HA0 HA1 HBY HAE HSE
      go_wp2_with fail
      go_loopw [93] (fun i ws => ∃ u : Nat, u ≤ n ∧ i = .int .i64 u ∧ Hid (TbV ws q nn 3 (tbU AP n (n * n))) ∧ Hid (ws.heap[p]? = some (.cells #[.int .i64 n, .slice a l.length cap] 24)) ∧ Hid (Below p w ws)) (fun i _ => n - (intOf i).toNat)
      case atStart => exact ⟨0, Nat.zero_le _, rfl, HT2, HP9, HBR9⟩
      case round =>
       clear g0 g1 HT2 HP9 HBR9 HP0 HBR
       obtain ⟨u, hu, rfl, HT, HP0, HBR⟩ := hrel
       obtain ⟨⟨g0, g1⟩, _⟩ := two_cells HP0.out
       by_cases hun : u < n
       ·have hun' : (u : Int) < n := by omega
        go_wp2_with fail
        go_loopw [98] (fun i ws => ∃ v : Nat, v ≤ n ∧ i = .int .i64 v ∧ Hid (TbV ws q nn 3 (tbU AP n (n * n))) ∧ Hid (ws.heap[p]? = some (.cells #[.int .i64 n, .slice a l.length cap] 24)) ∧ Hid (Below p w ws)) (fun i _ => n - (intOf i).toNat)
        case atStart => exact ⟨0, Nat.zero_le _, rfl, HT, HP0, HBR⟩
        case round =>
         clear g0 g1 HT HP0 HBR
         obtain ⟨v, hv, rfl, HT, HP0, HBR⟩ := hrel
         obtain ⟨⟨g0, g1⟩, _⟩ := two_cells HP0.out
         by_cases hvn : v < n
         ·have hvn' : (v : Int) < n := by omega
          go_wp2_with fail
          go_loopw [103] (fun i ws => ∃ x : Nat, x ≤ n ∧ i = .int .i64 x ∧ Hid (TbV ws q nn 3 (tbU AP n (n * n))) ∧ Hid (ws.heap[p]? = some (.cells #[.int .i64 n, .slice a l.length cap] 24)) ∧ Hid (Below p w ws)) (fun i _ => n - (intOf i).toNat)
          case atStart => exact ⟨0, Nat.zero_le _, rfl, HT, HP0, HBR⟩
          case round =>
           clear g0 g1 HT HP0 HBR
           obtain ⟨x, hx, rfl, HT, HP0, HBR⟩ := hrel
           obtain ⟨⟨g0, g1⟩, _⟩ := two_cells HP0.out
           by_cases hxn : x < n
           ·have hxn' : (x : Int) < n := by omega
            obtain ⟨m1, HM1⟩ := named (u * n)
            obtain ⟨m2, HM2⟩ := named (v * n)
            obtain ⟨m3, HM3⟩ := named (x * n)
            have hm1 : (u : Int) * (n : Int) = (m1 : Int) := by rw [← HM1.out]; simp
            have hm2 : (v : Int) * (n : Int) = (m2 : Int) := by rw [← HM2.out]; simp
            have hm3 : (x : Int) * (n : Int) = (m3 : Int) := by rw [← HM3.out]; simp
            have i1 : m1 + v < nn := by rw [← HM1.out, ← HNQ.out]; exact mul_lt hun hvn
            have i2 : m2 + u < nn := by rw [← HM2.out, ← HNQ.out]; exact mul_lt hvn hun
            have i3 : m1 + x < nn := by rw [← HM1.out, ← HNQ.out]; exact mul_lt hun hxn
            have i4 : m3 + v < nn := by rw [← HM3.out, ← HNQ.out]; exact mul_lt hxn hvn
            have c1 := HT.out.cell i1
            have c2 := HT.out.cell i2
            have c3 := HT.out.cell i3
            have c4 := HT.out.cell i4
            rw [← HM1.out, tbU_at AP hun hvn, HM1.out] at c1
            rw [← HM2.out, tbU_at AP hvn hun, HM2.out, HCO.out v u] at c2
            rw [← HM1.out, tbU_at AP hun hxn, HM1.out] at c3
            rw [← HM3.out, tbU_at AP hxn hvn, HM3.out] at c4
            have hul := HUL.out u v x
            have hk1 := HLE.out u v
            have hk2 := HLE.out u x
            have hk3 := HLE.out x v
            generalize AP u v = k1 at *
            generalize AP u x = k2 at *
            generalize AP x v = k3 at *
            have i1' : (m1 : Int) + v < nn := by omega
            have i2' : (m2 : Int) + u < nn := by omega
            have i3' : (m1 : Int) + x < nn := by omega
            have i4' : (m3 : Int) + v < nn := by omega
            have hne : ((k1 : Int) != (k1 : Int)) = false := by simp
            obtain ⟨mx, HMX⟩ := named (max k2 k3)
            have x1 : max (k2 : Int) (k3 : Int) = (mx : Int) := by rw [← HMX.out]; omega
            have x2 : (if (k2 : Int) < (k3 : Int) then (k3 : Int) else (k2 : Int)) = (mx : Int) := by rw [← HMX.out]; split <;> omega
            have x3 : ¬ (mx : Int) < (k1 : Int) := by rw [← HMX.out]; omega
            have x4 : decide ((mx : Int) < (k1 : Int)) = false := decide_eq_false x3
            clear hul
            go_wp2_with fail
            go_quiet (fail)
            go_wp2_with fail
            exact ⟨⟨x + 1, hxn, by simp, HT, HP0, HBR.out.trans (below_drewN _ _ _)⟩, by simp [intOf]; omega⟩
           ·have hxn' : ¬ (x : Int) < n := by omega
            go_wp2_with fail
            exact ⟨⟨v + 1, hvn, by simp, HT, HP0, HBR⟩, by simp [intOf]; omega⟩
         ·have hvn' : ¬ (v : Int) < n := by omega
          go_wp2_with fail
          exact ⟨⟨u + 1, hun, by simp, HT, HP0, HBR⟩, by simp [intOf]; omega⟩
       ·have hun' : ¬ (u : Int) < n := by omega
        go_wp2_with fail
        refine bodyPost_ret (results_tmp rfl _ _ _) rfl ?_
        exact ⟨rfl, HBR.out⟩
  ·go_wp2_with fail
   go_ret
   exact ⟨rfl, HB3.out⟩
 ·have e1 : (E != 0) = true := by simpa using hE
  go_wp2_with fail
  go_ret
  exact ⟨rfl, HB2.out⟩
end Go.Proofs.YtmenajiceaicpaaGreat.Ult
