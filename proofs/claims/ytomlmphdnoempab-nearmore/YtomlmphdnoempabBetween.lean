/-
  Contract of near.Between.
-/
import Derived.Test.YtomlmphdnoempabBBegin
namespace Go.Proofs.Ytomlmphdnoempab
open Go.RowKit
open Hp (HR HRto Fr upd upd_self upd_ne TopIs)
theorem mid_wk {l : List A} {s : Nat} {F : Nat → Int} {T : Nat → Option Int} {K v : Nat} {d : Int} {k j : Nat} (h : Mid l Al s F T K v d k) (hj : j < l.length) (hs : src (ar l j) = v) (hlt : sat d (ar l j).w < F (dst (ar l j))) : Wk l Al s (dst (ar l j)) (sat d (ar l j).w) := by
  have h1 := h.inv.hi (dst (ar l j))
  rw [sat_lt (show sat d (ar l j).w < Inf by omega)]
  refine Wk.snoc (ar_mem hj) ?_ rfl
  rw [hs]
  have := h.inv.wk v (by rw [h.fv]; exact h.di)
  rwa [h.fv] at this
theorem mid_lo {l : List A} {s : Nat} {F : Nat → Int} {T : Nat → Option Int} {K v : Nat} {d : Int} {k j : Nat} (h : Mid l Al s F T K v d k) (hw : ∀ x ∈ l, 0 ≤ x.w) (hj : j < l.length) : 0 ≤ sat d (ar l j).w := by
  have h1 := h.inv.lo v
  rw [h.fv] at h1
  have h2 := hw _ (ar_mem hj)
  exact sat_ge (by omega) (by unfold Inf; omega)
/-- The search ahead goes on. -/
theorem step_ahead {n bb : Nat} {w0 w : World} {z y : Sd} {l : List A} {F G : Nat → Int} {T U : Nat → Option Int} {best : Int} {s t gk : Nat} (ap : Apart n bb w0 z y) (hz : z.l = l) (g : RG n l) (h : Two n bb w0 z y w F T G U best) (hb : BI n l s t F T G U best gk) (hne : ∃ u k, T u = some k) :
    Calls Try.prog 19 #[.pointer (some ⟨z.f, 0, none⟩)] w fun e w' => e = .returned (.tuple #[]) ∧ ∃ F' T' best' g', Two n bb w0 z y w' F' T' G U best' ∧ BI n l s t F' T' G U best' g' ∧ g' < gk := by
  obtain ⟨K, hi⟩ := hb.inv
  obtain ⟨M, hj⟩ := hb.inv'
  subst hz
  refine (two_step ap g h hi (fun F b => BJ z.l s t F G b) hb.bj (fun F T K v d k j be hm hjl hs hlt hJ => ?_) hne).mono ?_
  · exact hJ.ahead (mid_wk hm hjl hs hlt) hj.wk (mid_lo hm (fun x hx => (g.wt x hx).1) hjl) hj.lo
  · rintro e w' ⟨rfl, F', T', be, h', hi', hJ', hd⟩
    refine ⟨rfl, F', T', be, _, h', ⟨rfl, ⟨_, hi'⟩, ⟨M, hj⟩, hJ'⟩, ?_⟩
    have h1 := hb.gk
    have h2 := dn_le F' T' n
    omega
/-- The search back goes on. -/
theorem step_back {n bb : Nat} {w0 w : World} {z y : Sd} {l : List A} {F G : Nat → Int} {T U : Nat → Option Int} {best : Int} {s t gk : Nat} (ap : Apart n bb w0 y z) (hy : y.l = turned l) (g : RG n l) (h : Two n bb w0 z y w F T G U best) (hb : BI n l s t F T G U best gk) (hne : ∃ u k, U u = some k) :
    Calls Try.prog 19 #[.pointer (some ⟨y.f, 0, none⟩)] w fun e w' => e = .returned (.tuple #[]) ∧ ∃ G' U' best' g', Two n bb w0 z y w' F T G' U' best' ∧ BI n l s t F T G' U' best' g' ∧ g' < gk := by
  obtain ⟨K, hi⟩ := hb.inv
  obtain ⟨M, hj⟩ := hb.inv'
  have g' := turned_rg g
  rw [← hy] at hj g'
  refine (two_step ap g' h.swap hj (fun G b => BJ l s t F G b) hb.bj (fun G T K v d k j be hm hjl hs hlt hJ => ?_) hne).mono ?_
  · have h1 := mid_wk hm hjl hs hlt
    rw [hy] at h1 hm
    have h2 := mid_lo hm (fun x hx => ((turned_rg g).wt x hx).1) (by rw [← hy]; exact hjl)
    rw [hy] at hjl ⊢
    exact hJ.behind h1 hi.wk h2 hi.lo
  · rintro e w' ⟨rfl, F', T', be, h', hi', hJ', hd⟩
    rw [hy] at hi'
    refine ⟨rfl, F', T', be, _, h'.swap, ⟨rfl, ⟨K, hi⟩, ⟨_, hi'⟩, hJ'⟩, ?_⟩
    have h1 := hb.gk
    have h2 := dn_le F' T' n
    omega
theorem Two.below {n bb : Nat} {w0 w : World} {z y : Sd} {F G : Nat → Int} {T U : Nat → Option Int} {best : Int} (h : Two n bb w0 z y w F T G U best) : Below w0.heap.size w0 w := by
  obtain ⟨_, _, _, _, _, _, _, _, hb⟩ := h
  exact hb
theorem Two.best {n bb : Nat} {w0 w : World} {z y : Sd} {F G : Nat → Int} {T U : Nat → Option Int} {best : Int} (h : Two n bb w0 z y w F T G U best) : w.heap[bb]? = some (.cells #[.int .u64 best] 27) := by
  obtain ⟨_, _, _, _, ⟨_, _, _, _, h, _⟩, _⟩ := h
  exact h
theorem nearE_chk {N : Int} {l : List A} {xs : List Int} (h : nearE N l xs = 0) : chkE N l = 0 := by
  unfold nearE at h
  by_cases e : chkE N l = 0
  · exact e
  · rw [if_neg e] at h; exact h
theorem meet_at (n bf1 bf2 bb : Nat) {w w' : World} (hz : w'.heap.size = w.heap.size) (hb : Below w.heap.size w w') :
    Calls Try.prog 13 #[.slice (some ⟨bf1, 0, none⟩) n n, .slice (some ⟨bf2, 0, none⟩) n n, .pointer (some ⟨bb, 0, none⟩)] w' fun e wM => e = .returned (.func (.func 15) #[] #[.pointer (some ⟨w.heap.size + 2, 0, none⟩), .pointer (some ⟨bb, 0, none⟩), .pointer (some ⟨w.heap.size, 0, none⟩)]) ∧ Below (w.heap.size + 3) (boxes w n bf1 bf2) wM := by
  refine (meet_any ⟨bf1, 0, none⟩ ⟨bf2, 0, none⟩ n n n n bb w').mono ?_
  rintro e wM ⟨rfl, rfl⟩
  rw [hz]
  refine ⟨rfl, ?_⟩
  have h1 := boxes_below w n bf1 bf2
  have h2 := boxes_below w' n bf1 bf2
  have e0 : boxes w' n bf1 bf2 = ((w'.alloc (.cells #[.slice (some ⟨bf2, 0, none⟩) n n] 34)).alloc (.cells #[.slice (some ⟨bf1, 0, none⟩) n n] 34)).alloc (.cells #[.func (.func 26) #[] #[.pointer (some ⟨w.heap.size + 1, 0, none⟩)]] 48) := by unfold boxes; rw [hz]
  rw [← e0]
  refine ⟨?_, ?_, ?_, ?_, fun k hk => ?_⟩
  · exact (h2.os.trans hb.os).trans h1.os.symm
  · exact (h2.tape.trans hb.tape).trans h1.tape.symm
  · exact (h2.output.trans hb.output).trans h1.output.symm
  · rw [boxes_size, boxes_size]; omega
  · by_cases k1 : k < w.heap.size
    · exact (h2.block k (by omega)).trans ((hb.block k k1).trans (h1.block k k1).symm)
    · have c0 := boxes_co w' n bf1 bf2
      have c1 := boxes_c w' n bf1 bf2
      have c2 := boxes_cs w' n bf1 bf2
      rw [hz] at c0 c1 c2
      by_cases k2 : k = w.heap.size
      · subst k2; exact c0.trans (boxes_co w n bf1 bf2).symm
      · by_cases k3 : k = w.heap.size + 1
        · subst k3; exact c1.trans (boxes_c w n bf1 bf2).symm
        · have k4 : k = w.heap.size + 2 := by omega
          subst k4; exact c2.trans (boxes_cs w n bf1 bf2).symm
set_option maxHeartbeats 3200000 in
set_option maxRecDepth 100000 in
theorem between_ok (n : Nat) (a : Option Addr) (l : List A) (cap : Nat) (s t : Nat) (w : World) (g : RG n l) (hs : s < n) (ht : t < n) (hE : nearE n l [(s : Int), (t : Int)] = 0) (hn : a = none → l = [] ∧ cap = 0) (hr : Arcs w a l) :
    Calls Try.prog 6 #[.agg #[.int .i64 n, .slice a l.length cap], .int .i64 s, .int .i64 t] w fun e w' => ∃ d, e = .returned (.tuple #[.int .u64 d, .int .i64 0]) ∧ IsT l s t d ∧ Below w.heap.size w w' := by
  have hnb := g.nb
  have hlb := g.lb
  have hb0 : Below w.heap.size w ((w.alloc (.cells #[.int .i64 n, .slice a l.length cap] 24)).alloc (.cells #[.int .i64 s, .int .i64 t] 3)) := ((Below.refl _ _).alloc (Nat.le_refl _) _).alloc (by simp) _
  have hg : ((w.alloc (.cells #[.int .i64 n, .slice a l.length cap] 24)).alloc (.cells #[.int .i64 s, .int .i64 t] 3)).heap[w.heap.size]? = some (.cells #[.int .i64 n, .slice a l.length cap] 24) := (Below.heap_alloc _ _ _ (by simp)).trans (heap_top w _)
  have hi2 := two_int (w.alloc (.cells #[.int .i64 n, .slice a l.length cap] 24)) s t
  rw [World.size_alloc] at hi2
  have HCK := Lib.hid (ncheck_any n a l cap _ [(s : Int), (t : Int)] 2 _ (by omega) (by simp) (hr.on hb0) hi2)
  rw [hE] at HCK
  have HCE := Lib.hid (nearE_chk hE)
  have HG := Lib.hid g
  have HR := Lib.hid hr
  have HNN := Lib.hid hn
  clear g hr hE hi2 hn
  go_enter Try.func6, Try.ntmps6
  go_wp2_with fail
  refine HCK.out.mono ?_
  rintro e w1 ⟨rfl, hb1⟩
  have hg1 := (hb1.block _ (lt_of_block hg)).trans hg
  have b1 : Below w.heap.size w w1 := hb0.trans (hb1.mono hb0.size)
  have s1 := lt_of_block hg1
  clear hg hb0 hb1 HCK
  obtain ⟨⟨g0, g1⟩, -⟩ := two_cells hg1
  have HRV := Lib.hid (reverse_any n a l cap w1 (by omega) HNN.out (HR.out.on b1))
  rw [if_pos HCE.out, if_pos HCE.out, HCE.out] at HRV
  go_wp2_with fail
  refine HRV.out.mono ?_
  rintro e w2 ⟨a', c', rfl, ho, hnil, hb2⟩
  have HOA := Lib.hid ho.arcs
  have b2 : Below w.heap.size w w2 := b1.trans (hb2.mono b1.size)
  have hg2 := (hb2.block _ (lt_of_block hg1)).trans hg1
  obtain ⟨x0, x1⟩ := (two_cells hg2).1
  have s2 := lt_of_block hg2
  clear g0 g1 ho hnil HRV
  have hbt := heap_top w2 (.cells #[.int .i64 n, .slice a' (turned l).length c'] 24)
  have sW : (w2.alloc (.cells #[.int .i64 n, .slice a' (turned l).length c'] 24)).heap.size = w2.heap.size + 1 := by simp
  have bW0 : Below w2.heap.size w2 (w2.alloc (.cells #[.int .i64 n, .slice a' (turned l).length c'] 24)) := (Below.refl _ _).alloc (Nat.le_refl _) _
  go_wp2_with fail
  generalize w2.alloc (.cells #[.int .i64 n, .slice a' (turned l).length c'] 24) = W at *
  have HBW := Lib.hid (b2.trans (bW0.mono b2.size))
  have X0 := Lib.hid ((bW0.cell (p := ⟨w.heap.size, 0, none⟩) s2).trans x0)
  have X1 := Lib.hid ((bW0.cell (p := ⟨w.heap.size, 1, none⟩) s2).trans x1)
  have T0 := Lib.hid (two_cells hbt).1.1
  have T1 := Lib.hid (two_cells hbt).1.2
  have HA1 := Lib.hid (HR.out.on HBW.out)
  have HA2 := Lib.hid (HOA.out.on bW0)
  have sw : w.heap.size < W.heap.size := by omega
  have st : w2.heap.size < W.heap.size := by omega
  have HV := Lib.hid (heap_top_at W (.cells #[.int .u64 18446744073709551615] 27) (w2.heap.size + 1) sW)
  have bV : Below W.heap.size W (W.alloc (.cells #[.int .u64 18446744073709551615] 27)) := (Below.refl _ _).alloc (Nat.le_refl _) _
  have sV : (W.alloc (.cells #[.int .u64 18446744073709551615] 27)).heap.size = W.heap.size + 1 := by simp
  clear hbt hg1 hg2 x0 x1 bW0 b1 b2 hb2 s1 s2 HOA HR
  generalize W.alloc (.cells #[.int .u64 18446744073709551615] 27) = V at *
  have v0 := (bV.cell (p := ⟨w.heap.size, 0, none⟩) sw).trans X0.out
  have V0 := Lib.hid v0
  go_cut [12, 13] (fun sa sb wc => ∃ bf1 bf2, sa = .slice (some ⟨bf1, 0, none⟩) n n ∧ sb = .slice (some ⟨bf2, 0, none⟩) n n ∧ Tb wc bf1 n 27 .u64 (fun _ => Inf) ∧ Tb wc bf2 n 27 .u64 (fun _ => Inf) ∧ V.heap.size ≤ bf1 ∧ V.heap.size ≤ bf2 ∧ bf1 ≠ bf2 ∧ Below V.heap.size V wc)
  case first =>
    have HN1 : Hid (n ≤ 8192) := by show _ ≤ _; omega
    have HN2 : Hid (n ≤ 8192) := by show _ ≤ _; omega
    have HSW : Hid (w.heap.size < V.heap.size) := by show _ < _; omega
    clear hnb hlb HCE HG HNN HBW X0 X1 T0 T1 HA1 HA2 sw st HV bV sV sW
    go_region_held3 (fun w' => w'.cell? ⟨w.heap.size, 0, none⟩ = some (.int .i64 n)) (go_keep) (first
      | (go_at_call 12; refine (unreached_any n HN1.out _).mono ?_; clear HN1; rintro e wA ⟨bA, rfl, htA, hlA, hbA⟩; have BA : Below V.heap.size V wA := below_base hbA (by first | exact Below.refl _ _ | exact (Below.refl _ _).drew | exact below_drewN _ _ _); have yA : wA.cell? ⟨w.heap.size, 0, none⟩ = some (.int .i64 n) := (BA.cell (p := ⟨w.heap.size, 0, none⟩) HSW.out).trans V0.out)
      | (go_at_call 12; refine (unreached_any n HN2.out _).mono ?_; clear HN2; rintro e wB ⟨bB, rfl, htB, hlB, hbB⟩; have BB : Below V.heap.size V wB := below_base hbB (by first | exact BA | exact BA.drew | exact BA.trans (below_drewN _ _ _)); have yB : wB.cell? ⟨w.heap.size, 0, none⟩ = some (.int .i64 n) := (BB.cell (p := ⟨w.heap.size, 0, none⟩) HSW.out).trans V0.out; have htA' : Tb wB bA n 27 .u64 (fun _ => Inf) := htA.same (hbB.block bA htA.lt)))
    all_goals (go_wp2_with fail; go_meet)
    all_goals
      have q1 : V.heap.size ≤ bA := hlA
      have q2 : wA.heap.size ≤ bB := hlB
      have q3 := BA.size
      have q4 := htA.lt
      first
        | exact ⟨bA, bB, rfl, rfl, htA', htB, q1, by omega, by omega, BB⟩
        | exact ⟨bB, bA, rfl, rfl, htB, htA', by omega, q1, by omega, BB⟩
  case rest =>
    obtain ⟨bf1, bf2, hsa, hsb, t1, t2, p1, p2, p3, BC⟩ := hcut
    subst hsa hsb
    have bWc : Below W.heap.size W wc := bV.trans (BC.mono bV.size)
    have pre : Pre n (w2.heap.size + 1) bf1 bf2 W wc := ⟨bWc, t1, t2, (BC.block _ (by omega)).trans HV.out, by omega, by omega, by omega, p3, by omega, by omega⟩
    have HPRE := Lib.hid pre
    have y0 := (bWc.cell (p := ⟨w.heap.size, 0, none⟩) sw).trans X0.out
    have y1 := (bWc.cell (p := ⟨w.heap.size, 1, none⟩) sw).trans X1.out
    have SW := Lib.hid sw
    have ST := Lib.hid st
    have HME := Lib.hid (fun (w' : World) (hz : w'.heap.size = wc.heap.size) (hb : Below wc.heap.size wc w') => meet_at n bf1 bf2 (w2.heap.size + 1) hz hb)
    have HBX := Lib.hid (boxes_below wc n bf1 bf2)
    have SWC : Hid (w.heap.size < wc.heap.size) := Nat.lt_of_lt_of_le sw bWc.size
    have Y0 := Lib.hid y0
    have Y1 := Lib.hid y1
    have HB1 := Lib.hid (fun (w' : World) (hb : Below (wc.heap.size + 3) (boxes wc n bf1 bf2) w') => begin_one (cap := cap) HPRE.out HG.out HA1.out hs hb)
    clear pre t1 t2 v0 V0 HV bV sV
    go_wp2_with fail
    go_region_held3 (fun w' => w'.cell? ⟨w.heap.size, 0, none⟩ = some (.int .i64 n) ∧ w'.cell? ⟨w.heap.size, 1, none⟩ = some (.slice a l.length cap)) (go_keep) (first
      | (go_at_call 13; refine (HME.out _ (by exact rfl) (by first | exact Below.refl _ _ | exact (Below.refl _ _).drew | exact below_drewN _ _ _)).mono ?_; rintro e wM ⟨rfl, hbM⟩; have m0 : wM.cell? ⟨w.heap.size, 0, none⟩ = some (.int .i64 n) := (hbM.cell (p := ⟨w.heap.size, 0, none⟩) (Nat.lt_add_right 3 SWC.out)).trans ((HBX.out.cell (p := ⟨w.heap.size, 0, none⟩) SWC.out).trans Y0.out); have m1 : wM.cell? ⟨w.heap.size, 1, none⟩ = some (.slice a l.length cap) := (hbM.cell (p := ⟨w.heap.size, 1, none⟩) (Nat.lt_add_right 3 SWC.out)).trans ((HBX.out.cell (p := ⟨w.heap.size, 1, none⟩) SWC.out).trans Y1.out))
      | (go_at_call 17; refine (HB1.out _ (by first | exact hbM | exact hbM.drew | exact hbM.trans (below_drewN _ _ _))).mono ?_; rintro e w4 ⟨z, rfl, hone⟩; have u0 := (hone.b.cell (p := ⟨w.heap.size, 0, none⟩) SW.out).trans X0.out; have u1 := (hone.b.cell (p := ⟨w.heap.size, 1, none⟩) SW.out).trans X1.out))
    have HONE := Lib.hid hone
    have t0 := (hone.b.cell (p := ⟨w2.heap.size, 0, none⟩) ST.out).trans T0.out
    have t1 := (hone.b.cell (p := ⟨w2.heap.size, 1, none⟩) ST.out).trans T1.out
    have SW4 : Hid (w2.heap.size < w4.heap.size) := Nat.lt_of_lt_of_le ST.out hone.b.size
    have TT0 := Lib.hid t0
    have TT1 := Lib.hid t1
    have HME2 := Lib.hid (fun (w' : World) (hz : w'.heap.size = w4.heap.size) (hb : Below w4.heap.size w4 w') => meet_at n bf2 bf1 (w2.heap.size + 1) hz hb)
    have HBX2 := Lib.hid (boxes_below w4 n bf2 bf1)
    have HB2 := Lib.hid (fun (w' : World) (hb : Below (w4.heap.size + 3) (boxes w4 n bf2 bf1) w') => begin_two (cap' := c') HONE.out HPRE.out.n1 HPRE.out.n2 HPRE.out.n3 HPRE.out.l1 HPRE.out.l2 HPRE.out.l3 HG.out HA1.out HA2.out ht hb)
    clear hone u0 u1 m0 m1 hbM y0 y1 Y0 Y1 HBX HME HB1 HONE bWc BC
    go_wp2_with fail
    go_region_held3 (fun w' => w'.cell? ⟨w2.heap.size, 0, none⟩ = some (.int .i64 n) ∧ w'.cell? ⟨w2.heap.size, 1, none⟩ = some (.slice a' (turned l).length c')) (go_keep) (first
      | (go_at_call 13; refine (HME2.out _ (by exact rfl) (by first | exact Below.refl _ _ | exact (Below.refl _ _).drew | exact below_drewN _ _ _)).mono ?_; rintro e wM ⟨rfl, hbM⟩; have m0 : wM.cell? ⟨w2.heap.size, 0, none⟩ = some (.int .i64 n) := (hbM.cell (p := ⟨w2.heap.size, 0, none⟩) (Nat.lt_add_right 3 SW4.out)).trans ((HBX2.out.cell (p := ⟨w2.heap.size, 0, none⟩) SW4.out).trans TT0.out); have m1 : wM.cell? ⟨w2.heap.size, 1, none⟩ = some (.slice a' (turned l).length c') := (hbM.cell (p := ⟨w2.heap.size, 1, none⟩) (Nat.lt_add_right 3 SW4.out)).trans ((HBX2.out.cell (p := ⟨w2.heap.size, 1, none⟩) SW4.out).trans TT1.out))
      | (go_at_call 17; refine (HB2.out _ (by first | exact hbM | exact hbM.drew | exact hbM.trans (below_drewN _ _ _))).mono ?_; rintro e w5 ⟨y, rfl, hzl, hyl, apz, apy, F, T, G, U, best, tw, bi⟩; have htb : Below W.heap.size W w5 := tw.below; have u0 := (htb.cell (p := ⟨w2.heap.size, 0, none⟩) ST.out).trans T0.out; have u1 := (htb.cell (p := ⟨w2.heap.size, 1, none⟩) ST.out).trans T1.out))
    have APZ := Lib.hid apz
    have APY := Lib.hid apy
    have HZL := Lib.hid hzl
    have HYL := Lib.hid hyl
    have HBI := Lib.hid bi
    clear apz apy hzl hyl bi m0 m1 hbM u0 u1 t0 t1 TT0 TT1 HME2 HBX2 HB2 htb
    go_wp2_with fail
    go_loopg [60] ((n - dn F T n) + (n - dn G U n)) (fun k i wr => ∃ (F : Nat → Int) (T : Nat → Option Int) (G : Nat → Int) (U : Nat → Option Int) (best : Int), Two n (w2.heap.size + 1) W z y wr F T G U best ∧ Hid (BI n l s t F T G U best k))
    case atStart => exact ⟨F, T, G, U, best, tw, HBI⟩
    case round =>
      obtain ⟨F1, T1, G1, U1, be, tw1, hb1⟩ := hrel
      clear tw HBI
      have HNZ := Lib.hid (fun (w' : World) (hb : Below wr.heap.size wr w') => two_near (tw1.on hb))
      have HNY := Lib.hid (fun (w' : World) (hb : Below wr.heap.size wr w') => two_near (tw1.on hb).swap)
      obtain ⟨c0, -⟩ := one_cell tw1.best
      have C0 := Lib.hid c0
      have HBB := Lib.hid (lt_of_block tw1.best)
      have HADD : Hid (∀ q1 q2 (h1 : NearIs T1 q1) (h2 : NearIs U1 q2) (w' : World), Calls Try.prog 16 #[.int .u64 q1, .int .u64 q2] w' fun e w'' => e = .returned (.int .u64 (sat q1 q2)) ∧ w'' = w') := by
        intro q1 q2 h1 h2 w'
        obtain ⟨K, hi⟩ := hb1.out.inv
        obtain ⟨M, hj⟩ := hb1.out.inv'
        exact add_any q1 q2 (near_rng hi h1) (near_rng hj h2) w'
      go_wp2_with fail
      go_cut [60] from 54 to 69 (fun v wc => ∃ q1 q2, v = .bool (decide (sat q1 q2 < be)) ∧ NearIs T1 q1 ∧ NearIs U1 q2 ∧ Below wr.heap.size wr wc)
      case first =>
        clear HG HNN HBW X0 X1 T0 HA1 HA2 APZ APY HZL HYL hb1 HPRE
        go_region_held3 (fun w' => w'.cell? ⟨w2.heap.size + 1, 0, none⟩ = some (.int .u64 be)) (go_keep) (first
          | (go_at_call 18; with_reducible (show Calls Try.prog 18 #[Value.pointer (some ⟨z.f, 0, none⟩)] _ _); refine (HNZ.out _ (by first | exact BY | exact BY.drew | exact BY.trans (below_drewN _ _ _) | exact Below.refl _ _ | exact (Below.refl _ _).drew | exact below_drewN _ _ _)).mono ?_; rintro e wZ ⟨qz, rfl, hqz, hbz⟩; have BZ : Below wr.heap.size wr wZ := below_base hbz (by first | exact BY | exact BY.drew | exact BY.trans (below_drewN _ _ _) | exact Below.refl _ _ | exact (Below.refl _ _).drew | exact below_drewN _ _ _); have yz : wZ.cell? ⟨w2.heap.size + 1, 0, none⟩ = some (.int .u64 be) := (BZ.cell (p := ⟨w2.heap.size + 1, 0, none⟩) HBB.out).trans C0.out)
          | (go_at_call 18; with_reducible (show Calls Try.prog 18 #[Value.pointer (some ⟨y.f, 0, none⟩)] _ _); refine (HNY.out _ (by first | exact BZ | exact BZ.drew | exact BZ.trans (below_drewN _ _ _) | exact Below.refl _ _ | exact (Below.refl _ _).drew | exact below_drewN _ _ _)).mono ?_; rintro e wY ⟨qy, rfl, hqy, hby⟩; have BY : Below wr.heap.size wr wY := below_base hby (by first | exact BZ | exact BZ.drew | exact BZ.trans (below_drewN _ _ _) | exact Below.refl _ _ | exact (Below.refl _ _).drew | exact below_drewN _ _ _); have yy : wY.cell? ⟨w2.heap.size + 1, 0, none⟩ = some (.int .u64 be) := (BY.cell (p := ⟨w2.heap.size + 1, 0, none⟩) HBB.out).trans C0.out)
          | (go_at_call 16; refine (HADD.out qz qy hqz hqy _).mono ?_; rintro e w' ⟨rfl, rfl⟩))
        all_goals (go_wp2_with fail; go_meet)
        all_goals
          first
            | exact ⟨qz, qy, rfl, hqz, hqy, BY⟩
            | exact ⟨qz, qy, rfl, hqz, hqy, BZ⟩
            | exact ⟨qz, qy, rfl, hqz, hqy, BY.drew⟩
            | exact ⟨qz, qy, rfl, hqz, hqy, BZ.drew⟩
      case rest =>
        obtain ⟨q1, q2, hv, hq1, hq2, BX⟩ := hcut
        subst hv
        have tw2 := tw1.on BX
        clear tw1 BX HNZ HNY C0 c0 HBB HADD
        by_cases hc : sat q1 q2 < be
        · have hd : decide (sat q1 q2 < be) = true := by simpa using hc
          rw [hd]
          have HK : Hid ((∃ u k, T1 u = some k) ∧ ∃ u k, U1 u = some k) := by
            obtain ⟨K, hi⟩ := hb1.out.inv
            obtain ⟨M, hj⟩ := hb1.out.inv'
            have h1 := near_rng hi hq1
            have h2 := near_rng hj hq2
            have h3 := hb1.out.bj.hi
            have h4 := sat_lt (show sat q1 q2 < Inf by omega)
            exact ⟨hq1.key_of (by omega), hq2.key_of (by omega)⟩
          clear hd hc hq1 hq2
          have HNA := Lib.hid (two_near tw2)
          go_wp2_with fail
          refine HNA.out.mono ?_
          rintro e wA ⟨qa, rfl, _, hba⟩
          have tw3 := tw2.on hba
          have HNB := Lib.hid (two_near tw3.swap)
          clear tw2 hba HNA
          go_wp2_with fail
          refine HNB.out.mono ?_
          rintro e wB ⟨qb, rfl, _, hbb⟩
          have tw4 := tw3.on hbb
          clear tw3 hbb HNB
          by_cases hle : qa ≤ qb
          · have HST := Lib.hid (step_ahead APZ.out HZL.out HG.out tw4 hb1.out HK.out.1)
            go_wp2_with fail
            refine HST.out.mono ?_
            rintro e wC ⟨rfl, F', T', be', g', tw5, bi5, hlt⟩
            have HL := Lib.hid hlt
            have HB5 := Lib.hid bi5
            clear hlt bi5
            go_wp2_with fail
            go_roundg g'
            case measure => exact HL.out
            case rel => exact ⟨F', T', G1, U1, be', tw5, HB5⟩
          · have HST := Lib.hid (step_back APY.out HYL.out HG.out tw4 hb1.out HK.out.2)
            go_wp2_with fail
            refine HST.out.mono ?_
            rintro e wC ⟨rfl, F', T', be', g', tw5, bi5, hlt⟩
            have HL := Lib.hid hlt
            have HB5 := Lib.hid bi5
            clear hlt bi5
            go_wp2_with fail
            go_roundg g'
            case measure => exact HL.out
            case rel => exact ⟨F1, T1, F', T', be', tw5, HB5⟩
        · have hd : decide (sat q1 q2 < be) = false := by simpa using hc
          rw [hd]
          have HIT := Lib.hid (hb1.out.done (fun x hx => (HG.out.wt x hx).1) hq1 hq2 hc)
          obtain ⟨c0, -⟩ := one_cell tw2.best
          have HBL := Lib.hid (HBW.out.trans (tw2.below.mono HBW.out.size))
          clear hd hc hq1 hq2 tw2
          go_wp2_with fail
          go_ret2
          exact ⟨be, rfl, HIT.out, HBL.out⟩
end Go.Proofs.Ytomlmphdnoempab
