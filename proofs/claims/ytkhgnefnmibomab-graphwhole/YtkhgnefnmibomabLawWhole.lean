/-
  The law GraphWhole: the graph of all vertices is the graph; that of some, of which some are kept, is that of these.
-/
import Derived.Test.YtkhgnefnmibomabLawParts
import Derived.Test.YtkhgnefnmibomabWholeMath
namespace Go.Proofs.Ytkhgnefnmibomab
open Go.RowKit
/-- Every second one. -/
def even (k : Nat) : Bool := decide (k % 2 = 0)
set_option maxHeartbeats 3200000 in
set_option maxRecDepth 100000 in
theorem law_whole (N : Int) (a : Option Addr) (l : List A) (cap : Nat) (a' : Option Addr) (kp : List Bool) (cap' : Nat) (w : World) (hlen : l.length * 24 ≤ 140737488351232) (_hn : a = none → l = [] ∧ cap = 0) (hr : Arcs w a l) (hkp : Bools (· < w.heap.size) w a' kp) :
    Calls Try.prog 4 #[.agg #[.int .i64 N, .slice a l.length cap], .slice a' kp.length cap'] w fun e w' => e = .returned (.bool true) ∧ Below w.heap.size w w' := by
  have hl : l.length ≤ 9223372036854775807 := by omega
  have hb0 : Below w.heap.size w (w.alloc (.cells #[.int .i64 N, .slice a l.length cap] 24)) := (Below.refl _ _).alloc (Nat.le_refl _) _
  obtain ⟨T, HT⟩ := named (chkAt N l)
  by_cases hE : chkE N l = 0
  · obtain ⟨hN1, hN2, hlen2, hall⟩ := chk_zero hE
    obtain ⟨n, rfl⟩ : ∃ n : Nat, N = n := ⟨N.toNat, by omega⟩
    have hn1 : 1 ≤ n := by omega
    have hn2 : n ≤ 1024 := by omega
    have HE := Lib.hid hE
    have HALL := Lib.hid hall
    clear hall hE hN1 hN2
    by_cases hK : kp.length = n
    · obtain ⟨i4, hi4, hz0, hz1, hz2⟩ := info_parts info4
      have HK := Lib.hid hK
      rw [hK]
      clear hK
      go_enter Try.func4, Try.ntmps4
      go_wp2_with fail
      refine (works_any _).mono ?_
      rintro e w1 ⟨rfl, hb1⟩
      have hg1 := (hb1.block _ (by simp)).trans (heap_top w _)
      have b1 := bthen hb0 hb1 (by simp)
      have s1 := lt_of_block hg1
      have hr1 := hr.on b1
      clear hb1 hb0
      obtain ⟨⟨g0, g1⟩, gf0, gf1⟩ := two_cells hg1
      go_wp2_with fail
      refine (check_any n a l cap _ hl hr1).mono ?_
      rintro e w2 ⟨rfl, hb2⟩
      rw [HE.out, HT.out]
      have hg2 := (hb2.block _ s1).trans hg1
      have b2 := bthen b1 hb2 (by omega)
      have s2 := lt_of_block hg2
      clear hb2 hg1 g0 g1 gf0 gf1 hr1 b1
      obtain ⟨⟨g0, g1⟩, gf0, gf1⟩ := two_cells hg2
      go_wp2_with (at_make; refine wpList_make_full _ rfl (.tmp 45) (.tmp 45) 37 rfl w2.heap.size 4 i4 (.bool false) 1 Try.underlying37 hi4 hz0 hz1 .i64 .i64 n n n rfl rfl rfl rfl (by rw [hz2]; omega) (by unfold maxLen; omega) (Nat.le_refl _) ?_; intro w3 hown3 hgrow3)
      have hown0 := ownB_new hown3
      have hb3 : Below w2.heap.size w2 w3 := (Below.refl _ _).grown hgrow3 (Nat.le_refl _) (by intro k hk; cases hk)
      clear hown3 hgrow3
      go_loopw [49] (fun i wr => ∃ (k : Nat) (X : List Bool), k ≤ n ∧ i = .int .i64 (k : Int) ∧ Hid (X.length = n) ∧ Hid (∀ j, j < k → X.getD j false = true) ∧ OwnB wr w2.heap.size n X ∧ Below w2.heap.size w2 wr) (fun i _ => n - (intOf i).toNat)
      case atStart => exact ⟨0, List.replicate n false, Nat.zero_le _, rfl, by show _ = _; simp, by intro j hj; omega, hown0, hb3⟩
      case round =>
        obtain ⟨k, X, hk, rfl, HX, HJ, hown, hbel⟩ := hrel
        by_cases hkn : k < n
        · have cx := hown.cell HX.out k hkn
          have fx := hown.free k
          have hXl : k < X.length := by rw [HX.out]; exact hkn
          have HN : Hid (∀ j, j < k + 1 → (X.set k true).getD j false = true) := by
            show ∀ j, _
            intro j hj
            rw [getDB_set _ _ _ _ hXl]
            split
            · rfl
            · exact HJ.out j (by omega)
          have hst := hown.set k true
          generalize X.getD k false = x0 at *
          go_wp2_with fail
          exact ⟨⟨k + 1, _, by omega, by go_num, by show _ = _; rw [List.length_set]; exact HX.out, HN, hst, hbel.setCell (Nat.le_refl _) _⟩, by simp [intOf]; omega⟩
        · have hq : ∀ v, v < n → mk X v = true := fun v hv => HJ.out v (by omega)
          have hH : hits (mk X) n ≠ [] := hits_some (v := 0) (by omega) (hq 0 (by omega))
          obtain ⟨w4, hw4⟩ : ∃ x, x = wr := ⟨wr, rfl⟩
          subst hw4
          have b4 := bthen b2 hbel (by omega)
          have hg4 := (hbel.block _ s2).trans hg2
          have hIND := induced_ok n a l cap (some ⟨w2.heap.size, 0, none⟩) X n w4 HE.out HX.out hH (hr.on b4) (hown.bools HX.out)
          have hIL : (indI (mk X) l).length = l.length := by rw [← indA_len, ind_all hq HALL.out]
          rw [hits_all hq, ind_all hq HALL.out, hIL] at hIND
          have HIND := Lib.hid hIND
          clear hIND hH hq hIL hown hown0 hb3 hg2 g0 g1 gf0 gf1
          have s4 := lt_of_block hg4
          obtain ⟨⟨g0, g1⟩, gf0, gf1⟩ := two_cells hg4
          go_wp2_with fail
          refine HIND.out.mono ?_
          rintro e w5 ⟨ah, ch, av, cv, ai, ci, rfl, hown5, _, _, _, hb5⟩
          have hr5 := hown5.arcs
          have b5 := bthen b4 hb5 (by omega)
          have hg5 := (hb5.block _ s4).trans hg4
          clear hown5 hb5 hg4 g0 g1 gf0 gf1 b4 hbel
          have hb6 := (Below.refl w5.heap.size w5).alloc (Nat.le_refl _) (.cells #[.int .i64 (n : Int), .slice ah l.length ch] 24)
          have hr6 := hr5.on hb6
          have b6 := bthen b5 hb6 (by have := lt_of_block hg5; omega)
          have hg6 := (hb6.block _ (lt_of_block hg5)).trans hg5
          have hk6 := heap_top w5 (.cells #[.int .i64 (n : Int), .slice ah l.length ch] 24)
          have ho6 := hr.on b6
          have s5 := lt_of_block hg5
          clear hb6 hr5 b5
          obtain ⟨⟨g0, g1⟩, gf0, gf1⟩ := two_cells hg5
          go_wp2_with fail
          refine (sameGraph_any n ah a ch cap l _ hl hr6 ho6).mono ?_
          rintro e w7 ⟨rfl, hb7⟩
          have b7 := bthen b6 hb7 (by have := lt_of_block hg6; omega)
          have hg7 := (hb7.block _ (lt_of_block hg6)).trans hg6
          have s7 := lt_of_block hg7
          clear hb7 hg6 hk6 hr6 ho6 b6 hg5 g0 g1 gf0 gf1
          obtain ⟨⟨g0, g1⟩, gf0, gf1⟩ := two_cells hg7
          have hkp7 : Bools (· < w7.heap.size) w7 a' kp := hkp.imp (fun b h => by show b < _; omega) (fun b h => b7.block b h)
          by_cases hH : hits (mk kp) n = []
          · have hE5 : indE n l kp = 5 := by unfold indE; rw [if_pos HE.out, HK.out, if_pos rfl, if_pos hH]
            have hNO := induced_no n a l cap a' kp cap' w7 hl (hr.on b7) hkp7 (by rw [hE5]; decide)
            rw [hE5, HK.out] at hNO
            have HNO := Lib.hid hNO
            clear hNO hE5 hH
            go_wp2_with fail
            refine HNO.out.mono ?_
            rintro e w8 ⟨rfl, hb8⟩
            have b8 := bthen b7 hb8 (by omega)
            have b9 := b8.alloc b8.size (.cells #[.int .i64 0, .slice none 0 0] 24)
            go_wp2_with fail
            go_ret
            exact ⟨rfl, b9⟩
          · have hIND := induced_ok n a l cap a' kp cap' w7 HE.out HK.out hH (hr.on b7) hkp7
            have hC8 := chk_ind HE.out hH
            have hpos : 0 < (hits (mk kp) n).length := by
              rcases Nat.eq_zero_or_pos (hits (mk kp) n).length with h | h
              · exact absurd (List.eq_nil_of_length_eq_zero h) hH
              · exact h
            have hml : (hits (mk kp) n).length ≤ n := hits_len _ _
            have HIND := Lib.hid hIND
            have HC8 := Lib.hid hC8
            have HIDX := Lib.hid (fun j (h : j < (hits (mk kp) n).length) => hits_idx (q := mk kp) (n := n) h)
            have hZl : (indA (mk kp) l).length ≤ 8192 := by
              have : (indI (mk kp) l).length ≤ l.length := hits_len _ _
              rw [indA_len]; omega
            have HINJ := Lib.hid (fun u v (hu : u < n) (hv : v < n) (e1 : mk kp u = true) (e2 : mk kp v = true) => hits_inj (q := mk kp) (n := n) hu hv e1 e2)
            have HRK := Lib.hid (fun v (h1 : v < n) (h2 : mk kp v = true) => (hits_rank (q := mk kp) h1 h2).1)
            have HII := Lib.hid (fun (r s : Nat → Bool) (h : ∀ v, v < n → s v = (mk kp v && r (hits (mk kp) v).length)) => ind_ind h HALL.out)
            have HCR := Lib.hid (fun (r s : Nat → Bool) (h : ∀ v, v < n → s v = (mk kp v && r (hits (mk kp) v).length)) => comp_rank h n (Nat.le_refl _))
            clear hIND hC8 hH
            generalize indI (mk kp) l = is at *
            generalize indA (mk kp) l = Z at *
            generalize hits (mk kp) n = vs at *
            go_wp2_with fail
            refine HIND.out.mono ?_
            rintro e w8 ⟨xh, xc, av', cv', ai', ci', rfl, hown8, _, hv8, _, hb8⟩
            have hr8 := hown8.arcs
            have hi8 := hv8.ints
            have b8 := bthen b7 hb8 (by omega)
            have hg8 := (hb8.block _ s7).trans hg7
            clear hown8 hv8 hb8 hg7 g0 g1 gf0 gf1 b7 HIND hkp7
            have hb9 := (Below.refl w8.heap.size w8).alloc (Nat.le_refl _) (.cells #[.int .i64 (vs.length : Int), .slice xh Z.length xc] 24)
            have hr9 := hr8.on hb9
            have hi9 := hi8.on hb9
            have b9 := bthen b8 hb9 (by have := lt_of_block hg8; omega)
            have hg9 := (hb9.block _ (lt_of_block hg8)).trans hg8
            have hx9 := heap_top w8 (.cells #[.int .i64 (vs.length : Int), .slice xh Z.length xc] 24)
            clear hb9 hr8 hi8 b8
            generalize hW9 : w8.alloc (.cells #[.int .i64 (vs.length : Int), .slice xh Z.length xc] 24) = W9 at *
            have s9 := lt_of_block hg9
            have s9' := lt_of_block hx9
            obtain ⟨p, o, hpo⟩ := hi9.get
            obtain ⟨rfl, hpl, hpc⟩ := hpo hpos
            obtain ⟨⟨y0, y1⟩, _, _⟩ := two_cells hx9
            go_wp2_with (first
              | (at_make; refine wpList_make_full _ rfl (.tmp 100) (.tmp 100) 37 rfl W9.heap.size 4 i4 (.bool false) 1 Try.underlying37 hi4 hz0 hz1 .i64 .i64 vs.length vs.length vs.length rfl rfl rfl rfl (by rw [hz2]; omega) (by unfold maxLen; omega) (Nat.le_refl _) ?_; intro w10 hown10 hgrow10; have hb10 : Below W9.heap.size W9 w10 := (Below.refl _ _).grown hgrow10 (Nat.le_refl _) (by intro k hk; cases hk); obtain ⟨⟨t0, t1⟩, _, _⟩ := two_cells ((hb10.block _ s9).trans hg9))
              | (at_make; refine wpList_make_full _ rfl (.tmp 103) (.tmp 103) 37 rfl w10.heap.size 4 i4 (.bool false) 1 Try.underlying37 hi4 hz0 hz1 .i64 .i64 n n n rfl rfl rfl rfl (by rw [hz2]; omega) (by unfold maxLen; omega) (Nat.le_refl _) ?_; intro w11 hown11 hgrow11))
            have hH0 := ownB_new hown10
            have hB0 := ownB_new hown11
            have hH1 : OwnB w11 W9.heap.size vs.length (List.replicate vs.length false) := World.ownsRow.kept hH0 hgrow11 (Or.inr (by simp [Value.ownBlock]))
            have hb11 : Below W9.heap.size W9 w11 := hb10.grown hgrow11 hb10.size (by intro k hk; cases hk)
            have s10 : W9.heap.size < w10.heap.size := hH0.lt
            clear hown10 hown11 hgrow10 hgrow11 hH0 hW9 t0 t1 y0 y1 hb10
            go_loopw [107] (fun i wr => ∃ (k : Nat) (Hh Bb : List Bool), k ≤ vs.length ∧ i = .int .i64 (k : Int) ∧ Hid (Hh.length = vs.length) ∧ Hid (∀ j, j < k → Hh.getD j false = even j) ∧ Hid (Bb.length = n) ∧ Hid (∀ v, v < n → Bb.getD v false = (mk kp v && decide ((hits (mk kp) v).length < k) && even (hits (mk kp) v).length)) ∧ OwnB wr W9.heap.size vs.length Hh ∧ OwnB wr w10.heap.size n Bb ∧ Below W9.heap.size W9 wr) (fun i _ => vs.length - (intOf i).toNat)
            case atStart => exact ⟨0, List.replicate vs.length false, List.replicate n false, Nat.zero_le _, rfl, by show _ = _; simp, by intro j hj; omega, by show _ = _; simp, by intro v hv; simp [List.getD, hv], hH1, hB0, hb11⟩
            case round =>
              obtain ⟨k, Hh, Bb, hk, rfl, HHl, HHj, HBl, HBv, hoH, hoB, hb12⟩ := hrel
              clear hH1 hB0 hb11
              by_cases hkv : k < vs.length
              · obtain ⟨v, hvn, hqv, e1, e2⟩ := HIDX.out k hkv
                have cv := (hb12.cell (p := ⟨p, o + k, none⟩) hpl).trans (hpc k hkv)
                rw [e1] at cv
                have ck := hoH.cell HHl.out k hkv
                have fk := hoH.free k
                have cb := hoB.cell HBl.out v hvn
                have fb := hoB.free v
                have hHk : k < Hh.length := by rw [HHl.out]; exact hkv
                have hBk : v < Bb.length := by rw [HBl.out]; exact hvn
                have HH2 : Hid (∀ j, j < k + 1 → (Hh.set k (even k)).getD j false = even j) := by
                  show ∀ j, _
                  intro j hj
                  rw [getDB_set _ _ _ _ hHk]
                  split
                  · rename_i e; rw [e]
                  · exact HHj.out j (by omega)
                have HB2 : Hid (∀ u, u < n → (Bb.set v (even k)).getD u false = (mk kp u && decide ((hits (mk kp) u).length < k + 1) && even (hits (mk kp) u).length)) := by
                  show ∀ u, _
                  intro u hu
                  rw [getDB_set _ _ _ _ hBk]
                  split
                  · rename_i e; rw [e, hqv, e2]; simp
                  · rename_i e
                    rw [HBv.out u hu]
                    by_cases hqu : mk kp u = true
                    · have hne : (hits (mk kp) u).length ≠ k := fun h => e (HINJ.out u v hu hvn hqu hqv (by omega))
                      rw [show decide ((hits (mk kp) u).length < k + 1) = decide ((hits (mk kp) u).length < k) from by rw [decide_eq_decide]; omega]
                    · rw [show mk kp u = false by simpa using hqu]; simp
                have hst1 := hoH.set k (even k)
                have hB1 : OwnB (wr.setCell ⟨W9.heap.size, k, none⟩ (.bool (even k))) w10.heap.size n Bb := ownsRow_setCell_other hoB (by simp [Value.ownBlock]; omega) _
                have hst2 := hB1.set v (even k)
                have hH2 : OwnB ((wr.setCell ⟨W9.heap.size, k, none⟩ (.bool (even k))).setCell ⟨w10.heap.size, v, none⟩ (.bool (even k))) W9.heap.size vs.length (Hh.set k (even k)) := ownsRow_setCell_other hst1 (by simp [Value.ownBlock]; omega) _
                have c2v : (wr.setCell ⟨W9.heap.size, k, none⟩ (.bool (even k))).cell? ⟨p, o + k, none⟩ = some (.int .i64 (v : Int)) := (World.cell?_setCell_other _ _ _ _ (by intro e; injection e with e; omega)).trans cv
                have c2h : (wr.setCell ⟨W9.heap.size, k, none⟩ (.bool (even k))).cell? ⟨W9.heap.size, k, none⟩ = some (.bool (even k)) := World.cell?_setCell_same _ _ _ ck
                have c2b := hB1.cell HBl.out v hvn
                have f2b := hB1.free v
                have bb := hb12.setCell (p := ⟨W9.heap.size, k, none⟩) (Nat.le_refl _) (.bool (even k))
                have hne1 : ¬ W9.heap.size = w10.heap.size := by omega
                generalize Hh.getD k false = x0 at *
                generalize Bb.getD v false = x1 at *
                clear e1 e2
                have HEV : Hid (even k = decide (k % 2 = 0)) := rfl
                have hmod : ((k : Int) % 2 == 0) = even k := by
                  rw [HEV.out, Bool.eq_iff_iff, beq_iff_eq, decide_eq_true_iff]
                  omega
                generalize even k = bk at *
                go_wp2_with fail
                generalize hW12 : wr.setCell ⟨W9.heap.size, k, none⟩ (.bool bk) = W12 at *
                clear hW12 ck fk cb fb cv hoH hoB hb12 hmod
                go_region
                go_wp2_with fail
                refine ⟨⟨k + 1, _, _, by omega, by go_num, by show _ = _; rw [List.length_set]; exact HHl.out, HH2, by show _ = _; rw [List.length_set]; exact HBl.out, HB2, hH2, hst2, (bb.setCell (by show _ ≤ w10.heap.size; omega) _).drew⟩, by simp [intOf]; omega⟩
              · have hre : ∀ j, j < vs.length → mk Hh j = even j := fun j hj => HHj.out j (by omega)
                have hs : ∀ v, v < n → mk Bb v = (mk kp v && mk Hh (hits (mk kp) v).length) := fun v hv => by
                  show Bb.getD v false = _
                  rw [HBv.out v hv]
                  by_cases hq : mk kp v = true
                  · have h1 := HRK.out v hv hq
                    rw [hre _ h1, hq, decide_eq_true (by omega)]; simp
                  · rw [show mk kp v = false by simpa using hq]; simp
                have hHr : hits (mk Hh) vs.length ≠ [] := hits_some (v := 0) hpos (by rw [hre 0 hpos]; rfl)
                have hcr := HCR.out (mk Hh) (mk Bb) hs
                have hii := HII.out (mk Hh) (mk Bb) hs
                have hHs : hits (mk Bb) n ≠ [] := by
                  intro h
                  rw [h] at hcr
                  exact hHr (List.eq_nil_of_length_eq_zero hcr.symm)
                obtain ⟨w13, hw13⟩ : ∃ x, x = wr := ⟨wr, rfl⟩
                subst hw13
                have s12 := hb12.size
                have hg13 := (hb12.block _ s9).trans hg9
                have hx13 := (hb12.block _ s9').trans hx9
                have b13 := bthen b9 hb12 (by omega)
                have hr13 := hr9.on hb12
                have hI1 := induced_ok vs.length xh Z xc (some ⟨W9.heap.size, 0, none⟩) Hh vs.length w13 HC8.out HHl.out hHr hr13 (hoH.bools HHl.out)
                have HI2 := Lib.hid (fun w' (hw' : Below w13.heap.size w13 w') => induced_ok n a l cap (some ⟨w10.heap.size, 0, none⟩) Bb n w' HE.out HBl.out hHs (hr.on (bthen b13 hw' (by have := b13.size; omega))) ((hoB.bools HBl.out).imp (fun b h => by show b < _; have := hw'.size; omega) (fun b h => hw'.block b h)))
                rw [hcr, ← hii] at HI2
                have HI1 := Lib.hid hI1
                have hYl : (indA (mk Hh) Z).length ≤ 8192 := by
                  have : (indI (mk Hh) Z).length ≤ Z.length := hits_len _ _
                  rw [indA_len]; omega
                clear hI1 hre hs hHr hHs hcr hii hoH hoB HIDX HINJ HRK HII HCR
                generalize (hits (mk Hh) vs.length).length = M at *
                generalize indA (mk Hh) Z = Y at *
                generalize (indI (mk Hh) Z).length = J at *
                generalize (indI (mk Bb) l).length = J' at *
                obtain ⟨⟨x0, x1⟩, _, _⟩ := two_cells hx13
                go_wp2_with fail
                refine HI1.out.mono ?_
                rintro e w14 ⟨yh, yc, av1, cv1, ai1, ci1, rfl, hown14, _, _, _, hb14⟩
                have hr14 := hown14.arcs
                have b14 := bthen b13 hb14 (by have := b13.size; omega)
                have hg14 := (hb14.block _ (lt_of_block hg13)).trans hg13
                have s14 := lt_of_block hg14
                have hb15 := (Below.refl w14.heap.size w14).alloc (Nat.le_refl _) (.cells #[.int .i64 (M : Int), .slice yh Y.length yc] 24)
                have hr15 := hr14.on hb15
                have hg15 := (hb15.block _ s14).trans hg14
                have hy15 := heap_top w14 (.cells #[.int .i64 (M : Int), .slice yh Y.length yc] 24)
                have b15 := bthen b14 hb15 (by omega)
                have hb15' := bthen hb14 hb15 hb14.size
                clear hown14 hb14 hr14 hb15 x0 x1
                obtain ⟨⟨g0, g1⟩, _, _⟩ := two_cells hg14
                go_wp2_with fail
                refine (HI2.out _ hb15').mono ?_
                rintro e w16 ⟨zh, zc, av2, cv2, ai2, ci2, rfl, hown16, _, _, _, hb16⟩
                have hr16 := hown16.arcs
                have hr16' := hr15.on hb16
                have hy16 := (hb16.block _ (lt_of_block hy15)).trans hy15
                have b16 := bthen b15 hb16 (by have := b15.size; omega)
                have s16 := lt_of_block hy16
                have hb17 := (Below.refl w16.heap.size w16).alloc (Nat.le_refl _) (.cells #[.int .i64 (M : Int), .slice zh Y.length zc] 24)
                have hr17 := hr16.on hb17
                have hr17' := hr16'.on hb17
                have b17 := bthen b16 hb17 (by have := b16.size; omega)
                clear hown16 hb16 hr16 hr16' hb17 g0 g1
                obtain ⟨⟨k0, k1⟩, _, _⟩ := two_cells hy16
                go_wp2_with fail
                refine (sameGraph_any M yh zh yc zc Y _ (by omega) hr17' hr17).mono ?_
                rintro e w18 ⟨rfl, hb18⟩
                have b18 := bthen b17 hb18 b17.size
                go_wp2_with fail
                go_ret
                exact ⟨rfl, b18⟩
    · have hK' : ((kp.length : Int) == (n : Int)) = false := beq_eq_false_iff_ne.2 (by omega)
      go_enter Try.func4, Try.ntmps4
      go_wp2_with fail
      refine (works_any _).mono ?_
      rintro e w1 ⟨rfl, hb1⟩
      have hg1 := (hb1.block _ (by simp)).trans (heap_top w _)
      have b1 := bthen hb0 hb1 (by simp)
      have s1 := lt_of_block hg1
      have hr1 := hr.on b1
      clear hb1 hb0
      obtain ⟨⟨g0, g1⟩, gf0, gf1⟩ := two_cells hg1
      go_wp2_with fail
      refine (check_any n a l cap _ hl hr1).mono ?_
      rintro e w2 ⟨rfl, hb2⟩
      rw [HE.out, HT.out]
      have hg2 := (hb2.block _ s1).trans hg1
      have b2 := bthen b1 hb2 (by omega)
      clear hb2 hg1 g0 g1 gf0 gf1 hr1 b1
      obtain ⟨⟨g0, g1⟩, gf0, gf1⟩ := two_cells hg2
      go_wp2_with fail
      go_ret
      exact ⟨rfl, b2⟩
  · obtain ⟨E, HE⟩ := named (chkE N l)
    rw [HE.out] at hE
    have hE' : (E == 0) = false := beq_eq_false_iff_ne.2 hE
    go_enter Try.func4, Try.ntmps4
    go_wp2_with fail
    refine (works_any _).mono ?_
    rintro e w1 ⟨rfl, hb1⟩
    have hg1 := (hb1.block _ (by simp)).trans (heap_top w _)
    have b1 := bthen hb0 hb1 (by simp)
    have s1 := lt_of_block hg1
    have hr1 := hr.on b1
    clear hb1 hb0
    obtain ⟨⟨g0, g1⟩, gf0, gf1⟩ := two_cells hg1
    go_wp2_with fail
    refine (check_any N a l cap _ hl hr1).mono ?_
    rintro e w2 ⟨rfl, hb2⟩
    rw [HE.out, HT.out]
    have b2 := bthen b1 hb2 (by omega)
    go_wp2_with fail
    go_ret
    exact ⟨rfl, b2⟩
end Go.Proofs.Ytkhgnefnmibomab
