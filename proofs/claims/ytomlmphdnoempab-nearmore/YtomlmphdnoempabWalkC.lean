/-
  Contract of near.Walk.
-/
import Derived.Test.YtomlmphdnoempabWalkF
import Derived.Test.YtomlmphdnoempabTrace
import Derived.Test.YtomlmphdnoempabBMath
namespace Go.Proofs.Ytomlmphdnoempab
open Go.RowKit
open Hp (HR HRto Fr upd upd_self upd_ne TopIs)
theorem set1_same {w : World} {c : Nat} {a u : Value} {t : TypeId} (h : w.heap[c]? = some (.cells #[a] t)) : (w.setCell ⟨c, 0, none⟩ u).heap[c]? = some (.cells #[u] t) := by
  rw [heap_setCell_same _ c 0 _ _ _ h]
  simp
theorem set1_other {w : World} {c b : Nat} {u : Value} (h : b ≠ c) : (w.setCell ⟨c, 0, none⟩ u).heap[b]? = w.heap[b]? := Below.heap_setCell w _ _ b h
theorem Pth.ids {l : List A} {s v : Nat} {p : List Nat} (h : Pth l s v p) : ∀ j ∈ p, j < l.length := by
  induction h with
  | nil => intro j hj; cases hj
  | snoc h1 _ _ ih =>
    intro j hj
    rw [List.mem_append] at hj
    rcases hj with hj | hj
    · exact ih j hj
    · simp at hj; subst hj; exact h1
theorem Pth.short {n : Nat} {l : List A} {s v : Nat} {p : List Nat} (g : RG n l) (hs : s < n) (h : Pth l s v p) (hn : (s :: heads l p).Nodup) : p.length + 1 ≤ n := by
  have h1 := nodup_len n _ hn (fun x hx => by
    simp only [List.mem_cons, heads, List.mem_map] at hx
    rcases hx with rfl | ⟨j, hj, rfl⟩
    · exact hs
    · exact g.dst_lt (ar_mem (h.ids j hj)))
  simpa [heads] using h1
theorem near_least {T : Nat → Option Int} {q c : Int} (h : NearIs T q) (hc : c ≤ q) (u : Nat) (k : Int) (e : T u = some k) : c ≤ k := by
  rcases h with ⟨_, _, h2⟩ | ⟨_, h1⟩
  · have := h2 u k e; omega
  · rw [h1 u] at e; cases e
/-- What holds while near.Walk searches. -/
structure WS (n : Nat) (l : List A) (s : Nat) (F : Nat → Int) (T : Nat → Option Int) (L : Nat → Int) (g : Nat) : Prop where
  gk : g = n - dn F T n
  inv : ∃ K, K ≤ dn F T n ∧ Inv l Al s F T K (fun _ => False)
  wj : WJ l s F T L
set_option maxHeartbeats 1600000 in
set_option maxRecDepth 100000 in
theorem walk_ok (n : Nat) (a : Option Addr) (l : List A) (cap : Nat) (s t : Nat) (w : World) (g : RG n l) (hs : s < n) (ht : t < n) (hE : nearE n l [(s : Int), (t : Int)] = 0) (hr : Arcs w a l) :
    Calls Try.prog 7 #[.agg #[.int .i64 n, .slice a l.length cap], .int .i64 s, .int .i64 t] w fun e w' => ∃ v d, e = .returned (.tuple #[v, .int .u64 d, .int .i64 0]) ∧ IsT l s t d ∧ Below w.heap.size w w' ∧
      (d = Inf ∧ v = .slice none 0 0 ∨ d < Inf ∧ ∃ p, Pth l s t p ∧ plen l p = d ∧ (s :: heads l p).Nodup ∧ w'.ownsRow w.heap.size 3 1 v p.length (cellsI (idI p)) ∧ (p = [] → v = .slice none 0 0)) := by
  obtain ⟨i0, hi, hz0, hz1, hz2⟩ := info_parts info3
  have hnb := g.nb
  have hlb := g.lb
  have HM := Lib.hid (made_int n)
  have hb0 : Below w.heap.size w ((w.alloc (.cells #[.int .i64 n, .slice a l.length cap] 24)).alloc (.cells #[.int .i64 s, .int .i64 t] 3)) := ((Below.refl _ _).alloc (Nat.le_refl _) _).alloc (by simp) _
  have hg : ((w.alloc (.cells #[.int .i64 n, .slice a l.length cap] 24)).alloc (.cells #[.int .i64 s, .int .i64 t] 3)).heap[w.heap.size]? = some (.cells #[.int .i64 n, .slice a l.length cap] 24) := (Below.heap_alloc _ _ _ (by simp)).trans (heap_top w _)
  have hi2 := two_int (w.alloc (.cells #[.int .i64 n, .slice a l.length cap] 24)) s t
  rw [World.size_alloc] at hi2
  have HCK := Lib.hid (ncheck_any n a l cap _ [(s : Int), (t : Int)] 2 _ (by omega) (by simp) (hr.on hb0) hi2)
  rw [hE] at HCK
  have hmS : ∀ w, (Instr.makeSlice 31 (.int .i64 n) (.int .i64 n)).run Try.prog w = .ok (.slice (some ⟨w.heap.size, 0, none⟩) n n) (w.alloc (.cells ((List.range n).map (fun _ => Value.int .i64 0)).toArray 3)) := fun w => by
    have := run_make (P := Try.prog) w 31 3 i0 (.int .i64 0) Try.underlying31 hi hz0 .i64 .i64 n n (by omega) (by omega) (by rw [hz2]; omega) (by omega)
    rw [hz1] at this
    rw [this, Int.toNat_natCast, ← HM.out, Array.toArray_toList]
  have HG := Lib.hid g
  have HR := Lib.hid hr
  clear g hr hE hi2
  go_enter Try.func7, Try.ntmps7
  go_wp2_with fail
  refine HCK.out.mono ?_
  rintro e w1 ⟨rfl, hb1⟩
  have hg1 := (hb1.block _ (lt_of_block hg)).trans hg
  have b1 : Below w.heap.size w w1 := hb0.trans (hb1.mono hb0.size)
  have s1 := lt_of_block hg1
  clear hg hb0 hb1 HCK
  obtain ⟨⟨g0, g1⟩, -⟩ := two_cells hg1
  go_wp2_with fail
  go_cut [10, 11] (fun sf sl wc => ∃ bf bl cl, sf = .slice (some ⟨bf, 0, none⟩) n n ∧ sl = .pointer (some ⟨cl, 0, none⟩) ∧ Tb wc bf n 27 .u64 (fun _ => Inf) ∧ Tb wc bl n 3 .i64 (fun _ => 0) ∧ wc.heap[cl]? = some (.cells #[.slice (some ⟨bl, 0, none⟩) n n] 31) ∧ w1.heap.size ≤ bf ∧ w1.heap.size ≤ bl ∧ w1.heap.size ≤ cl ∧ bf ≠ bl ∧ bf ≠ cl ∧ bl ≠ cl ∧ Below w1.heap.size w1 wc)
  case first =>
    have G0 := Lib.hid g0
    have G1 := Lib.hid g1
    have HNB : Hid (n ≤ 8192) := by show _ ≤ _; omega
    have HSZ := Lib.hid s1
    have hn1 : w.heap.size ≠ w1.heap.size := Nat.ne_of_lt HSZ.out
    have hn2 : w.heap.size ≠ w1.heap.size + 1 := Nat.ne_of_lt (Nat.lt_succ_of_lt HSZ.out)
    have hn3 := hn1.symm
    have hn4 := hn2.symm
    clear b1 hg1 HR HG hi hz0 hz1 hz2 HM hnb hlb
    clear i0
    go_region_held3 (fun w' => w'.cell? ⟨w.heap.size, 0, none⟩ = some (.int .i64 n)) (go_keep) (((go_at_call 12; refine (unreached_any n HNB.out _).mono ?_; rintro e w2 ⟨bf, rfl, htf, hbf, hbe⟩; have BE : Below w1.heap.size w1 w2 := below_base hbe (by first | exact (Below.refl _ _).drew | exact ((Below.refl _ _).drew).alloc (Nat.le_refl _) _ | exact ((((Below.refl _ _).drew).alloc (Nat.le_refl _) _).alloc (by rw [World.size_alloc]; exact Nat.le_succ _) _) | exact (((((Below.refl _ _).drew).alloc (Nat.le_refl _) _).alloc (by rw [World.size_alloc]; exact Nat.le_succ _) _).setCell (Nat.le_refl _) _)); have s1 : w.heap.size ≠ w2.heap.size := Nat.ne_of_lt (Nat.lt_of_lt_of_le HSZ.out BE.size); have s2 : w.heap.size ≠ w2.heap.size + 1 := Nat.ne_of_lt (Nat.lt_succ_of_lt (Nat.lt_of_lt_of_le HSZ.out BE.size)); have s3 := s1.symm; have s4 := s2.symm; have y0 := (BE.cell (p := ⟨w.heap.size, 0, none⟩) HSZ.out).trans G0.out); first | (have zz : w2.heap[w1.heap.size]? = some (.cells #[.slice none 0 0] 31) := tb2 hbe; have mm : w2.heap[w1.heap.size + 1]? = some (.cells ((List.range n).map (fun _ => Value.int .i64 0)).toArray 3) := tb3 hbe; obtain ⟨z0, zf0⟩ := one_cell zz; have zlt := lt_of_block zz; have zne := Nat.ne_of_lt zlt) | (have zz : w2.heap[w1.heap.size + 1]? = some (.cells #[.slice none 0 0] 31) := tb3 hbe; have mm : w2.heap[w1.heap.size]? = some (.cells ((List.range n).map (fun _ => Value.int .i64 0)).toArray 3) := tb2 hbe; obtain ⟨z0, zf0⟩ := one_cell zz; have zlt := lt_of_block zz; have zne := Nat.ne_of_lt zlt) | (have zz : w2.heap[w1.heap.size]? = some (.cells #[.slice none 0 0] 31) := tb1 hbe; obtain ⟨z0, zf0⟩ := one_cell zz; have zlt := lt_of_block zz; have zne := Nat.ne_of_lt zlt) | (have mm : w2.heap[w1.heap.size]? = some (.cells ((List.range n).map (fun _ => Value.int .i64 0)).toArray 3) := tb1 hbe) | (have zz : w2.heap[w1.heap.size + 1]? = some (.cells #[.slice (some ⟨w1.heap.size, 0, none⟩) n n] 31) := tb3 hbe; have mm : w2.heap[w1.heap.size]? = some (.cells ((List.range n).map (fun _ => Value.int .i64 0)).toArray 3) := tb2 hbe) | (have zz : w2.heap[w1.heap.size]? = some (.cells #[.slice (some ⟨w1.heap.size + 1, 0, none⟩) n n] 31) := tb2 hbe; have mm : w2.heap[w1.heap.size + 1]? = some (.cells ((List.range n).map (fun _ => Value.int .i64 0)).toArray 3) := tb3 hbe) | skip))
    · go_wp2_with fail
      go_meet
      case rel =>
        have q2 := htf.lt
        have q3 := BE.size
        have q1 : w1.heap.size ≤ bf := hbf
        exact ⟨bf, w2.heap.size, w2.heap.size + 1, rfl, rfl, (htf.alloc _).alloc _, (Below.heap_alloc _ _ _ (by simp)).trans (heap_top w2 _), heap_top_at _ _ _ (by simp), by omega, by omega, by omega, by omega, by omega, by omega, (BE.alloc q3 _).alloc (by simp; omega) _⟩
    · go_wp2_with fail
      go_meet
      case rel =>
        have q2 := htf.lt
        have q3 := BE.size
        have q1 : w1.heap.size ≤ bf := hbf
        exact ⟨bf, w2.heap.size + 1, w2.heap.size, rfl, rfl, (htf.alloc _).alloc _, heap_top_at _ _ _ (by simp), (Below.heap_alloc _ _ _ (by simp)).trans (heap_top w2 _), by omega, by omega, by omega, by omega, by omega, by omega, (BE.alloc q3 _).alloc (by simp; omega) _⟩
    · go_wp2_with fail
      go_meet
      case rel =>
        have q2 := htf.lt
        have q3 := BE.size
        have q1 : w1.heap.size + 1 ≤ bf := by have := hbf; rw [show (w1.alloc (.cells ((List.range n).map (fun _ => Value.int .i64 0)).toArray 3)).drew.heap.size = w1.heap.size + 1 by show (w1.alloc _).heap.size = _; simp] at this; exact this
        have q4 := lt_of_block mm
        exact ⟨bf, w1.heap.size, w2.heap.size, rfl, rfl, htf.alloc _, (Below.heap_alloc _ _ _ q4).trans mm, heap_top w2 _, by omega, by omega, by omega, by omega, by omega, by omega, BE.alloc q3 _⟩
    · go_wp2_with fail
      go_meet
      case rel =>
        have q2 := htf.lt
        have q3 := BE.size
        have q1 : w1.heap.size + 2 ≤ bf := by have := hbf; rw [show ((w1.alloc (.cells ((List.range n).map (fun _ => Value.int .i64 0)).toArray 3)).alloc (.cells #[.slice none 0 0] 31)).drew.heap.size = w1.heap.size + 2 by show ((w1.alloc _).alloc _).heap.size = _; simp] at this; exact this
        exact ⟨bf, w1.heap.size, w1.heap.size + 1, rfl, rfl, htf.same (set1_other (by omega)), (set1_other (by omega)).trans mm, set1_same zz, by omega, by omega, by omega, by omega, by omega, by omega, BE.setCell (by show w1.heap.size ≤ w1.heap.size + 1; omega) _⟩
    · go_wp2_with fail
      go_meet
      case rel =>
        have q2 := htf.lt
        have q3 := BE.size
        have q1 : w1.heap.size + 1 ≤ bf := by have := hbf; rw [show (w1.alloc (.cells #[.slice none 0 0] 31)).drew.heap.size = w1.heap.size + 1 by show (w1.alloc _).heap.size = _; simp] at this; exact this
        exact ⟨bf, w2.heap.size, w1.heap.size, rfl, rfl, Tb.alloc (htf.same (set1_other (by omega))) _, heap_top_at _ _ _ (by simp), (Below.heap_alloc _ _ _ (by simp; exact zlt)).trans (set1_same zz), by omega, by omega, by omega, by omega, by omega, by omega, (BE.setCell (Nat.le_refl _) _).alloc (by simp; exact q3) _⟩
    · go_wp2_with fail
      go_meet
      case rel =>
        have q2 := htf.lt
        have q3 := BE.size
        have q1 : w1.heap.size + 2 ≤ bf := by have := hbf; rw [show ((w1.alloc (.cells #[.slice none 0 0] 31)).alloc (.cells ((List.range n).map (fun _ => Value.int .i64 0)).toArray 3)).drew.heap.size = w1.heap.size + 2 by show ((w1.alloc _).alloc _).heap.size = _; simp] at this; exact this
        exact ⟨bf, w1.heap.size + 1, w1.heap.size, rfl, rfl, htf.same (set1_other (by omega)), (set1_other (by omega)).trans mm, set1_same zz, by omega, by omega, by omega, by omega, by omega, by omega, BE.setCell (Nat.le_refl _) _⟩
  case rest =>
    obtain ⟨bf, bl, cl, hsf, hsl, tbf, tbl, hcl, p1, p2, p3, p4, p5, p6, BE⟩ := hcut
    subst hsf hsl
    have z1 := tbf.lt
    have z2 := tbl.lt
    have z3 := lt_of_block hcl
    have s3 := BE.size
    have g0c := (BE.cell (p := ⟨w.heap.size, 0, none⟩) s1).trans g0
    have g1c := (BE.cell (p := ⟨w.heap.size, 1, none⟩) s1).trans g1
    have HAR := Lib.hid (HR.out.on b1)
    have hb2 : Below w1.heap.size w1 ((wc.alloc (.cells #[.slice (some ⟨bf, 0, none⟩) n n] 34)).alloc (.cells #[.func (.func 26) #[] #[.pointer (some ⟨wc.heap.size, 0, none⟩)]] 48)) := (BE.alloc s3 _).alloc (by simp; omega) _
    have hR2 : R2 n wc.heap.size bf (wc.heap.size + 1) cl bl ((wc.alloc (.cells #[.slice (some ⟨bf, 0, none⟩) n n] 34)).alloc (.cells #[.func (.func 26) #[] #[.pointer (some ⟨wc.heap.size, 0, none⟩)]] 48)) (fun _ => Inf) (fun _ => 0) :=
      ⟨⟨(Below.heap_alloc _ _ _ (by simp)).trans (heap_top wc _), (tbf.alloc _).alloc _⟩, heap_top_at _ _ _ (by simp), (Below.heap_alloc _ _ _ (by simp; omega)).trans ((Below.heap_alloc _ _ _ z3).trans hcl), (tbl.alloc _).alloc _⟩
    have HST := Lib.hid (start_any (w0 := w1) (cap := cap) (s := s) (awalk48 (.pointer (some ⟨wc.heap.size + 1, 0, none⟩)) (.pointer (some ⟨cl, 0, none⟩))) (fun2 n wc.heap.size bf (wc.heap.size + 1) cl bl (by omega) (by omega) (by omega) (by omega) (by omega) (by omega) (by omega)) HG.out HAR.out hb2 hs hR2 (by rintro k (rfl | rfl | rfl | rfl | rfl) <;> omega))
    have HSH := Lib.hid (shorter_any ⟨bf, 0, none⟩ n n wc)
    have B1 := Lib.hid b1
    have G0 := Lib.hid g0
    have G1 := Lib.hid g1
    have g0d := cell_al (k := wc.heap.size) (o := .cells #[.slice (some ⟨bf, 0, none⟩) n n] 34) g0c (by show w.heap.size ≠ _; omega)
    have g1d := cell_al (k := wc.heap.size) (o := .cells #[.slice (some ⟨bf, 0, none⟩) n n] 34) g1c (by show w.heap.size ≠ _; omega)
    have g0e := cell_al (k := wc.heap.size + 1) (o := .cells #[.func (.func 26) #[] #[.pointer (some ⟨wc.heap.size, 0, none⟩)]] 48) g0d (by show w.heap.size ≠ _; omega)
    have g1e := cell_al (k := wc.heap.size + 1) (o := .cells #[.func (.func 26) #[] #[.pointer (some ⟨wc.heap.size, 0, none⟩)]] 48) g1d (by show w.heap.size ≠ _; omega)
    clear hb2 hR2 hcl tbf tbl hmS HM hg1 g0 g1 b1 hi hz0 hz1 hz2
    clear i0
    go_wp2_with fail
    refine HSH.out.mono ?_
    rintro e w2 ⟨rfl, rfl⟩
    go_wp2_with fail
    refine HST.out.mono ?_
    rintro e w3 ⟨f, b1, b2, h, rfl, sy, F, T, x, sg, hiv, hor⟩
    have hws : WS n l s F T x (n - dn F T n) := by
      rcases hor with ⟨_, rfl, rfl, rfl⟩ | ⟨h', _⟩
      · exact ⟨rfl, ⟨0, Nat.zero_le _, hiv⟩, WJ.init l s _⟩
      · cases h'
    clear hor hiv HST HSH g0c g1c g0d g1d g0e g1e
    have HSTEP := Lib.hid (fun (w' : World) (F : Nat → Int) (T : Nat → Option Int) (L : Nat → Int) (K : Nat) hs hi hj hne => step_any sy HG.out s (fun F T L => WJ l s F T L) (fun F T L v d h _ _ => h.pop v) (fun F T L L' K v d k j hm hjl hsr _ hlt h e => by
      subst e
      exact h.take hm (fun x hx => (HG.out.wt x hx).1) (hm.inv.s0 rfl) hjl hsr hlt) (w := w') (F := F) (T := T) (x := L) (K := K) hs hi hj hne)
    go_wp2_with fail
    go_loopg [40] (n - dn F T n) (fun k i wr => ∃ (F1 : Nat → Int) (T1 : Nat → Option Int) (L1 : Nat → Int), SG w1 f a cap l n b1 b2 h (.func (.func 20) #[] #[.pointer (some ⟨wc.heap.size + 1, 0, none⟩), .pointer (some ⟨cl, 0, none⟩)]) (R2 n wc.heap.size bf (wc.heap.size + 1) cl bl) (Q2 wc.heap.size bf (wc.heap.size + 1) cl bl) wr F1 T1 L1 ∧ Hid (WS n l s F1 T1 L1 k))
    case atStart => exact ⟨F, T, x, sg, hws⟩
    case round =>
      obtain ⟨F1, T1, L1, sg1, hw1⟩ := hrel
      clear sg hws
      obtain ⟨D, hp, hh⟩ := sy.heap sg1
      have HNE := Lib.hid (fun (w' : World) (hb : Below wr.heap.size wr w') => nearest_any (sy.hd (sy.on sg1 hb)) (hp.on hb))
      have ct := sg1.tab.1.2.cell ht
      have CT := Lib.hid ct
      have HSZ := Lib.hid sg1.tab.1.2.lt
      have ht' : (t : Int) < n := by omega
      obtain ⟨ft, HFT⟩ := named (F1 t)
      rw [HFT.out] at ct CT
      go_wp2_with fail
      go_region_held3 (fun w' => w'.cell? ⟨bf, t, none⟩ = some (.int .u64 ft)) (go_keep) ((go_at_call 18; refine (HNE.out _ (by first | exact Below.refl _ _ | exact (Below.refl _ _).drew | exact below_drewN _ _ _)).mono ?_; rintro e w4 ⟨q, rfl, hq, hb4⟩; have y0 : w4.cell? ⟨bf, t, none⟩ = some (.int .u64 ft) := (hb4.cell (p := ⟨bf, t, none⟩) HSZ.out).trans CT.out; have BB : Below wr.heap.size wr w4 := Below.trans (show Below wr.heap.size wr _ from by first | exact Below.refl _ _ | exact (Below.refl _ _).drew | exact below_drewN _ _ _) hb4))
      have sg2 := sy.on sg1 BB
      have HLT := Lib.hid (fun u k (e : T1 u = some k) => Hp.HR.lt_n hp e)
      clear hh hp HNE ct CT HSZ
      by_cases hqt : q < ft
      · obtain ⟨K, hK, hiv⟩ := hw1.out.inv
        have hfi : ft ≤ Inf := by rw [← HFT.out]; exact hiv.hi t
        rcases hq with ⟨u, h1, h2⟩ | ⟨rfl, h1⟩
        · obtain ⟨hq1, hq2⟩ := hiv.key u q h1
          have HSP := Lib.hid (HSTEP.out w4 F1 T1 L1 K sg2 hiv hw1.out.wj ⟨u, q, h1⟩)
          have HN : Hid (dn F1 T1 n + 1 ≤ n) := by
            have h6 := dn_pop (F := F1) n (HLT.out u q h1) h1 hq2
            have := dn_le F1 (upd T1 u none) n
            show _ ≤ _
            omega
          have HK := Lib.hid hK
          clear hq1 hq2 h1 h2 hiv hK y0 hb4 BB sg1 hfi
          go_wp2_with fail
          refine HSP.out.mono ?_
          rintro e w5 ⟨rfl, F2, T2, L2, sg3, hi3, hj3, hd3⟩
          have HD3 := Lib.hid hd3
          have HI3 := Lib.hid hi3
          have HJ3 := Lib.hid hj3
          clear hd3 hi3 hj3
          go_wp2_with fail
          go_roundg (n - dn F2 T2 n)
          case measure => have := HD3.out; have := HN.out; have := hw1.out.gk; omega
          case rel => exact ⟨F2, T2, L2, sg3, rfl, ⟨K + 1, by have := HD3.out; have := HK.out; omega, HI3.out⟩, HJ3.out⟩
        · exact absurd hqt (by omega)
      · have HIT : Hid (IsT l s t ft ∧ (ft < Inf → ∃ p, Back l L1 s t p ∧ Pth l s t p ∧ plen l p = ft ∧ (s :: heads l p).Nodup)) := by
          obtain ⟨K, hK, hiv⟩ := hw1.out.inv
          show _ ∧ _
          rw [← HFT.out] at hqt ⊢
          exact ⟨⟨hiv.lo t, hiv.hi t, hiv.wk t, fun e he => hiv.exact (fun x hx => (HG.out.wt x hx).1) (near_least hq (by omega)) he⟩, fun hlt => hw1.out.wj.back hlt⟩
        have BW := Lib.hid (B1.out.trans (sg2.below.mono B1.out.size))
        by_cases hfi : ft = 18446744073709551615
        · subst hfi
          clear hq hw1 HFT sg1 sg2 HSTEP sy
          go_wp2_with fail
          go_ret3
          exact ⟨_, _, rfl, HIT.out.1, BW.out, Or.inl ⟨rfl, rfl⟩⟩
        · have hfi' : (ft == 18446744073709551615) = false := beq_eq_false_iff_ne.2 hfi
          have hfl : ft < Inf := by have := HIT.out.1.hi; unfold Inf at *; omega
          obtain ⟨p, hbk, hpt, hpl, hnd⟩ := HIT.out.2 hfl
          have hsh := hpt.short HG.out hs hnd
          obtain ⟨⟨r1, r2⟩, r3, r4, r5⟩ := sg2.tab
          have x0 := (sg2.below.cell (p := ⟨w.heap.size, 0, none⟩) s1).trans G0.out
          have x1 := (sg2.below.cell (p := ⟨w.heap.size, 1, none⟩) s1).trans G1.out
          obtain ⟨x2, -⟩ := one_cell r4
          have X0 := Lib.hid x0
          have X1 := Lib.hid x1
          have X2 := Lib.hid x2
          have Y0 := Lib.hid y0
          have hl0 : w.heap.size < w4.heap.size := Nat.lt_of_lt_of_le s1 sg2.below.size
          have hl2 := lt_of_block r4
          have hl3 := r2.lt
          have HTR := Lib.hid (fun (w' : World) (hb : Below w4.heap.size w4 w') => trace_any n a l cap s t bl L1 p w' HG.out (HAR.out.on (sg2.below.trans (hb.mono sg2.below.size))) (r5.same (hb.block _ r5.lt)) hbk ht (by omega))
          have HBK : Hid (∃ p, Pth l s t p ∧ plen l p = ft ∧ (s :: heads l p).Nodup) := ⟨p, hpt, hpl, hnd⟩
          have HPP : Hid (Pth l s t p ∧ plen l p = ft ∧ (s :: heads l p).Nodup) := ⟨hpt, hpl, hnd⟩
          have HSZ4 : Hid (w.heap.size ≤ w4.heap.size) := Nat.le_of_lt hl0
          have HL0 := Lib.hid hl0
          have HL2 := Lib.hid hl2
          have HL3 := Lib.hid hl3
          have HFL := Lib.hid hfl
          clear hq hw1 HFT sg1 sg2 HSTEP sy r1 r2 r3 r4 r5 hbk hpt hpl hnd hsh hfi hl0 hl2 hl3 BB hb4 hfl
          go_wp2_with fail
          go_region_held3 (fun w' => w'.cell? ⟨w.heap.size, 0, none⟩ = some (.int .i64 n) ∧ w'.cell? ⟨w.heap.size, 1, none⟩ = some (.slice a l.length cap) ∧ w'.cell? ⟨cl, 0, none⟩ = some (.slice (some ⟨bl, 0, none⟩) n n) ∧ w'.cell? ⟨bf, t, none⟩ = some (.int .u64 ft)) (go_keep) ((go_at_call 21; refine (HTR.out _ (by first | exact Below.refl _ _ | exact (Below.refl _ _).drew | exact below_drewN _ _ _)).mono ?_; rintro e w6 ⟨v, rfl, hown, hnil, hb6⟩; have u0 := (hb6.cell (p := ⟨w.heap.size, 0, none⟩) HL0.out).trans X0.out; have u1 := (hb6.cell (p := ⟨w.heap.size, 1, none⟩) HL0.out).trans X1.out; have u2 := (hb6.cell (p := ⟨cl, 0, none⟩) HL2.out).trans X2.out; have u3 := (hb6.cell (p := ⟨bf, t, none⟩) HL3.out).trans Y0.out; have BX : Below w4.heap.size w4 w6 := Below.trans (show Below w4.heap.size w4 _ from by first | exact Below.refl _ _ | exact (Below.refl _ _).drew | exact below_drewN _ _ _) hb6))
          go_wp2_with fail
          go_ret3
          refine ⟨v, ft, rfl, HIT.out.1, ?_, Or.inr ⟨HFL.out, p, HPP.out.1, HPP.out.2.1, HPP.out.2.2, ?_, hnil⟩⟩
          · first
              | exact BW.out.trans (BX.mono HSZ4.out)
              | exact (BW.out.trans (BX.mono HSZ4.out)).drew
              | exact (BW.out.trans (BX.mono HSZ4.out)).trans (below_drewN _ _ _)
          · first
              | exact World.ownsRow.mono hown HSZ4.out
              | exact Hp.own_same (World.ownsRow.mono hown HSZ4.out) (fun k _ => rfl)
end Go.Proofs.Ytomlmphdnoempab
