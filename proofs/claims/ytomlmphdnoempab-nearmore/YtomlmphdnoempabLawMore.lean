/-
  NearMore returns true.
-/
import Derived.Test.YtomlmphdnoempabMore
import Derived.Deep.RegionHeldLaw
namespace Go.Proofs.Ytomlmphdnoempab
open Go.RowKit
theorem al1 (W : World) (A : Obj) : (W.alloc A).drew.heap[W.heap.size]? = some A := heap_top W A
theorem al2a (W : World) (A B : Obj) : ((W.alloc A).alloc B).drew.heap[W.heap.size]? = some A := (Below.heap_alloc (W.alloc A) B _ (by simp)).trans (heap_top W A)
theorem al2b (W : World) (A B : Obj) : ((W.alloc A).alloc B).drew.heap[W.heap.size + 1]? = some B := heap_top_at (W.alloc A) B _ (by simp)
theorem al3a (W : World) (A B C : Obj) : (((W.alloc A).alloc B).alloc C).drew.heap[W.heap.size]? = some A := (Below.heap_alloc _ C _ (by simp; omega)).trans (al2a W A B)
theorem al3b (W : World) (A B C : Obj) : (((W.alloc A).alloc B).alloc C).drew.heap[W.heap.size + 1]? = some B := (Below.heap_alloc _ C _ (by simp)).trans (al2b W A B)
theorem al3c (W : World) (A B C : Obj) : (((W.alloc A).alloc B).alloc C).drew.heap[W.heap.size + 2]? = some C := heap_top_at _ C _ (by simp)
theorem belo1 (W : World) (A : Obj) : Below W.heap.size W (W.alloc A) := (Below.refl _ _).alloc (Nat.le_refl _) _
theorem belo2 (W : World) (A B : Obj) : Below W.heap.size W ((W.alloc A).alloc B) := (belo1 W A).alloc (by simp) _
theorem bel1 (W : World) (A : Obj) : Below W.heap.size W (W.alloc A).drew := (belo1 W A).drew
theorem bel2 (W : World) (A B : Obj) : Below W.heap.size W ((W.alloc A).alloc B).drew := (belo2 W A B).drew
theorem bel3 (W : World) (A B C : Obj) : Below W.heap.size W (((W.alloc A).alloc B).alloc C).drew := ((belo2 W A B).alloc (by simp; omega) _).drew
theorem below_set2 {W v : World} (h : Below W.heap.size W v) {cb : Nat} (hc : W.heap.size ≤ cb) (u1 u2 : Value) : Below W.heap.size W ((v.setCell ⟨cb, 0, none⟩ u1).setCell ⟨cb, 1, none⟩ u2) := (h.setCell (p := ⟨cb, 0, none⟩) hc u1).setCell (p := ⟨cb, 1, none⟩) hc u2
theorem own_set2 {w : World} {base g c cb : Nat} {l : List A} {u1 u2 : Value} (h : OwnA w base (some ⟨g, 0, none⟩) c l) (hne : g ≠ cb) : OwnA ((w.setCell ⟨cb, 0, none⟩ u1).setCell ⟨cb, 1, none⟩ u2) base (some ⟨g, 0, none⟩) c l :=
  Hp.own_same h (fun k hk => by cases hk; exact set2_other hne)
theorem rg_near {n : Nat} {l : List A} (g : RG n l) {s : Nat} (hs : s < n) : nearE n l [(s : Int)] = 0 := by
  have h1 := g.n1
  have h2 := g.nb
  have h3 := g.lb
  have hc : chkE n l = 0 := (chk_ok (by omega) (by omega) (by
    rw [List.all_eq_true]
    intro x hx
    have := g.ends x hx
    simp [okA, okV]
    exact this)).1
  unfold nearE
  rw [if_pos hc]
  have : okV n (s : Int) = true := by simp [okV]; omega
  simp [this]
theorem near_z1 {N : Int} {l : List A} {s : Int} (h : nearE N l [s] = 0) (hw : ∀ x ∈ l, 0 ≤ x.w ∧ x.w < 4294967296) : ∃ n s' : Nat, N = n ∧ s = s' ∧ s' < n ∧ RG n l := by
  have h1 := nearE_chk h
  obtain ⟨n, rfl, g⟩ := rg_of h1 hw
  unfold nearE at h
  rw [if_pos h1] at h
  by_cases e : okV n s = true
  · have := okV_t e
    exact ⟨n, s.toNat, rfl, by omega, by omega, g⟩
  · simp [e] at h
/-- Whether a graph is large. -/
def big (N : Int) (n : Nat) : Bool := decide (200 < N ∧ 2000 < n)
set_option maxHeartbeats 400000 in
theorem large_any (N : Int) (a : Option Addr) (m cap : Nat) (w : World) :
    Calls Try.prog 9 #[.agg #[.int .i64 N, .slice a m cap]] w fun e w' => e = .returned (.bool (big N m)) ∧ Below w.heap.size w w' := by
  have hb0 : Below w.heap.size w (w.alloc (.cells #[.int .i64 N, .slice a m cap] 24)) := (Below.refl _ _).alloc (Nat.le_refl _) _
  by_cases h1 : 200 < N
  · by_cases h2 : (2000 : Int) < m
    · have HB : Hid (big N m = true) := by show _ = _; unfold big; simp; omega
      rw [HB.out]
      go_enter Try.func9, Try.ntmps9
      go_wp2_with fail
      go_ret
      exact ⟨rfl, hb0⟩
    · have HB : Hid (big N m = false) := by show _ = _; unfold big; simp; omega
      rw [HB.out]
      go_enter Try.func9, Try.ntmps9
      go_wp2_with fail
      go_ret
      exact ⟨rfl, hb0⟩
  · have HB : Hid (big N m = false) := by show _ = _; unfold big; simp; omega
    rw [HB.out]
    go_enter Try.func9, Try.ntmps9
    go_wp2_with fail
    go_ret
    exact ⟨rfl, hb0⟩
set_option maxHeartbeats 6400000 in
set_option maxRecDepth 100000 in
theorem law_more (N : Int) (a : Option Addr) (l : List A) (cap : Nat) (s : Int) (x : A) (w : World) (hlen : l.length * 24 ≤ 140737488351232) (hn : a = none → l = [] ∧ cap = 0) (hr : Arcs w a l) (hw : ∀ x ∈ l, 0 ≤ x.w ∧ x.w < 4294967296) (hx : 0 ≤ x.w ∧ x.w < 4294967296) :
    Calls Try.prog 4 #[.agg #[.int .i64 N, .slice a l.length cap], .int .i64 s, .agg #[.int .i64 x.f, .int .i64 x.t, .int .u32 x.w]] w fun e w' => e = .returned (.bool true) ∧ Below w.heap.size w w' := by
  have hl : l.length ≤ 9223372036854775807 := by omega
  have hb0 : Below w.heap.size w ((w.alloc (.cells #[.int .i64 N, .slice a l.length cap] 24)).alloc (.cells #[.int .i64 x.f, .int .i64 x.t, .int .u32 x.w] 40)) := ((Below.refl _ _).alloc (Nat.le_refl _) _).alloc (by simp) _
  have hg : ((w.alloc (.cells #[.int .i64 N, .slice a l.length cap] 24)).alloc (.cells #[.int .i64 x.f, .int .i64 x.t, .int .u32 x.w] 40)).heap[w.heap.size]? = some (.cells #[.int .i64 N, .slice a l.length cap] 24) := (Below.heap_alloc _ _ _ (by simp)).trans (heap_top w _)
  have hq := heap_top_at (w.alloc (.cells #[.int .i64 N, .slice a l.length cap] 24)) (.cells #[.int .i64 x.f, .int .i64 x.t, .int .u32 x.w] 40) (w.heap.size + 1) (by simp)
  have HR := Lib.hid hr
  have HW := Lib.hid hw
  have HX := Lib.hid hx
  have HNN := Lib.hid hn
  have HWK := Lib.hid (works_any ((w.alloc (.cells #[.int .i64 N, .slice a l.length cap] 24)).alloc (.cells #[.int .i64 x.f, .int .i64 x.t, .int .u32 x.w] 40)))
  clear hr hw hn hx
  by_cases hE : nearE N l [s] = 0
  · obtain ⟨n, s, rfl, rfl, hs, g⟩ := near_z1 hE HW.out
    have HG := Lib.hid g
    have HE := Lib.hid hE
    have hlb := g.lb
    have hnb := g.nb
    clear hE g
    go_enter Try.func4, Try.ntmps4
    go_wp2_with fail
    refine HWK.out.mono ?_
    rintro e w1 ⟨rfl, hb1⟩
    have b1 : Below w.heap.size w w1 := hb0.trans (hb1.mono hb0.size)
    have hg1 := (hb1.block _ (lt_of_block hg)).trans hg
    have hq1 := (hb1.block _ (lt_of_block hq)).trans hq
    obtain ⟨⟨g0, g1⟩, -⟩ := two_cells hg1
    have HFR := Lib.hid (from_ok n a l cap s w1 HG.out hs HE.out (HR.out.on b1))
    clear hg hq hb0 hb1 HWK
    go_wp2_with fail
    refine HFR.out.mono ?_
    rintro e w2 ⟨bf, rfl, F, tf, hisd, hbn, hbf, hb2⟩
    have b2 : Below w.heap.size w w2 := b1.trans (hb2.mono b1.size)
    have hg2 := (hb2.block _ (lt_of_block hg1)).trans hg1
    have hq2 := (hb2.block _ (lt_of_block hq1)).trans hq1
    have HD := Lib.hid hisd
    have HBN := Lib.hid hbn
    clear g0 g1 hg1 hq1 hb2 b1 HFR hisd hbn
    obtain ⟨⟨g0, g1⟩, -⟩ := two_cells hg2
    obtain ⟨q0, q1, q2⟩ := three_cells hq2
    have HLA := Lib.hid (large_any n a l.length cap w2)
    go_wp2_with fail
    refine HLA.out.mono ?_
    rintro e w3 ⟨rfl, hb3⟩
    have b3 : Below w.heap.size w w3 := b2.trans (hb3.mono b2.size)
    have hg3 := (hb3.block _ (lt_of_block hg2)).trans hg2
    have hq3 := (hb3.block _ (lt_of_block hq2)).trans hq2
    have tf3 := tf.same (hb3.block _ tf.lt)
    clear g0 g1 q0 q1 q2 hg2 hq2 hb3 b2 HLA tf
    obtain ⟨⟨g0, g1⟩, -⟩ := two_cells hg3
    obtain ⟨q0, q1, q2⟩ := three_cells hq3
    generalize big n l.length = bg
    cases bg with
    | true =>
      go_wp2_with fail
      go_ret
      exact ⟨rfl, b3⟩
    | false =>
      by_cases h1 : (8192 : Int) ≤ l.length
      · go_wp2_with fail
        go_ret
        exact ⟨rfl, b3⟩
      by_cases h2 : x.f < 0
      · go_wp2_with fail
        go_ret
        exact ⟨rfl, b3⟩
      by_cases h3 : (n : Int) ≤ x.f
      · go_wp2_with fail
        go_ret
        exact ⟨rfl, b3⟩
      by_cases h4 : x.t < 0
      · go_wp2_with fail
        go_ret
        exact ⟨rfl, b3⟩
      by_cases h5 : (n : Int) ≤ x.t
      · go_wp2_with fail
        go_ret
        exact ⟨rfl, b3⟩
      go_wp2_with fail
      go_cut [9] (fun s9 wc => ∃ cb gg cc, s9 = .pointer (some ⟨cb, 0, none⟩) ∧ wc.heap[cb]? = some (.cells #[.int .i64 n, .slice (some ⟨gg, 0, none⟩) (l.length + 1) cc] 24) ∧ OwnA wc w3.heap.size (some ⟨gg, 0, none⟩) cc (l ++ [x]) ∧ Below w3.heap.size w3 wc)
      case first =>
        generalize w3 = W at *
        have G0 := Lib.hid g0
        have G1 := Lib.hid g1
        have Q0 := Lib.hid q0
        have Q1 := Lib.hid q1
        have Q2 := Lib.hid q2
        have S0 := Lib.hid (lt_of_block hg3)
        have S1 := Lib.hid (lt_of_block hq3)
        have HLB : Hid (l.length ≤ 8192) := by show _ ≤ _; omega
        have HAR := Lib.hid (fun (w' : World) (hb : Below W.heap.size W w') => HR.out.on (b3.trans (hb.mono b3.size)))
        have n0 : w.heap.size ≠ W.heap.size := Nat.ne_of_lt S0.out
        have n1 : w.heap.size + 1 ≠ W.heap.size := Nat.ne_of_lt S1.out
        have n2 : w.heap.size ≠ W.heap.size + 1 := Nat.ne_of_lt (Nat.lt_succ_of_lt S0.out)
        have n3 : w.heap.size + 1 ≠ W.heap.size + 1 := Nat.ne_of_lt (Nat.lt_succ_of_lt S1.out)
        have n4 : w.heap.size ≠ W.heap.size + 2 := Nat.ne_of_lt (Nat.lt_succ_of_lt (Nat.lt_succ_of_lt S0.out))
        have n5 : w.heap.size + 1 ≠ W.heap.size + 2 := Nat.ne_of_lt (Nat.lt_succ_of_lt (Nat.lt_succ_of_lt S1.out))
        have m0 := n0.symm
        have m1 := n1.symm
        have m2 := n2.symm
        have m3 := n3.symm
        have m4 := n4.symm
        have m5 := n5.symm
        have KEEP : Hid (∀ w' : World, Below W.heap.size W w' → w'.cell? ⟨w.heap.size, 0, none⟩ = some (.int .i64 n) ∧ w'.cell? ⟨w.heap.size, 1, none⟩ = some (.slice a l.length cap) ∧ w'.cell? ⟨w.heap.size + 1, 0, none⟩ = some (.int .i64 x.f) ∧ w'.cell? ⟨w.heap.size + 1, 1, none⟩ = some (.int .i64 x.t) ∧ w'.cell? ⟨w.heap.size + 1, 2, none⟩ = some (.int .u32 x.w)) := fun w' hb => ⟨(hb.cell (p := ⟨w.heap.size, 0, none⟩) S0.out).trans G0.out, (hb.cell (p := ⟨w.heap.size, 1, none⟩) S0.out).trans G1.out, (hb.cell (p := ⟨w.heap.size + 1, 0, none⟩) S1.out).trans Q0.out, (hb.cell (p := ⟨w.heap.size + 1, 1, none⟩) S1.out).trans Q1.out, (hb.cell (p := ⟨w.heap.size + 1, 2, none⟩) S1.out).trans Q2.out⟩
        clear hg3 hq3 tf3 b3 HD HBN HG HE HW HX HR
        go_region_held_law (fun w' => w'.cell? ⟨w.heap.size, 0, none⟩ = some (.int .i64 n) ∧ w'.cell? ⟨w.heap.size, 1, none⟩ = some (.slice a l.length cap) ∧ w'.cell? ⟨w.heap.size + 1, 0, none⟩ = some (.int .i64 x.f) ∧ w'.cell? ⟨w.heap.size + 1, 1, none⟩ = some (.int .i64 x.t) ∧ w'.cell? ⟨w.heap.size + 1, 2, none⟩ = some (.int .u32 x.w)) (first | exact KEEP.out _ (bel1 W _) | exact KEEP.out _ (bel2 W _ _) | exact KEEP.out _ (bel3 W _ _ _) | exact KEEP.out _ BBw2 | exact KEEP.out _ (BBw2.trans ((belo1 w2 _).mono BBw2.size)) | exact KEEP.out _ BBw1 | exact KEEP.out _ (BBw1.trans ((belo1 w1 _).mono BBw1.size)) | exact KEEP.out _ (BBw1.trans ((belo2 w1 _ _).mono BBw1.size)) | go_keep) (first
          | (refine wp_arcs (.tmp 69) (.tmp 71) rfl W.heap.size (W.heap.size) rfl (al1 W (.cells #[] 40)) (by omega) a l cap rfl HNN.out (HAR.out _ (bel1 W (.cells #[] 40))) HLB.out (bel1 W (.cells #[] 40)).size ?_; intro g1 c1 w1 ho1 hk1 hz1 hb1; have BBw1 : Below W.heap.size W w1 := (bel1 W (.cells #[] 40)).trans hb1; have yP0 := (BBw1.cell (p := ⟨w.heap.size, 0, none⟩) S0.out).trans G0.out; have yP1 := (BBw1.cell (p := ⟨w.heap.size, 1, none⟩) S0.out).trans G1.out; have yP2 := (BBw1.cell (p := ⟨w.heap.size + 1, 0, none⟩) S1.out).trans Q0.out; have yP3 := (BBw1.cell (p := ⟨w.heap.size + 1, 1, none⟩) S1.out).trans Q1.out; have yP4 := (BBw1.cell (p := ⟨w.heap.size + 1, 2, none⟩) S1.out).trans Q2.out; have npa : w.heap.size ≠ w1.heap.size := Nat.ne_of_lt (Nat.lt_of_lt_of_le S0.out BBw1.size); have npb : w.heap.size + 1 ≠ w1.heap.size := Nat.ne_of_lt (Nat.lt_of_lt_of_le S1.out BBw1.size); have npc : w.heap.size ≠ w1.heap.size + 1 := Nat.ne_of_lt (Nat.lt_succ_of_lt (Nat.lt_of_lt_of_le S0.out BBw1.size)); have npd : w.heap.size + 1 ≠ w1.heap.size + 1 := Nat.ne_of_lt (Nat.lt_succ_of_lt (Nat.lt_of_lt_of_le S1.out BBw1.size)); have npe := npa.symm; have npf := npb.symm; have npg := npc.symm; have nph := npd.symm)
          | (refine wp_arcs (.tmp 69) (.tmp 71) rfl W.heap.size (W.heap.size) rfl (al2a W (.cells #[] 40) (.cells #[.int .i64 x.f, .int .i64 x.t, .int .u32 x.w] 40)) (by omega) a l cap rfl HNN.out (HAR.out _ (bel2 W (.cells #[] 40) (.cells #[.int .i64 x.f, .int .i64 x.t, .int .u32 x.w] 40))) HLB.out (bel2 W (.cells #[] 40) (.cells #[.int .i64 x.f, .int .i64 x.t, .int .u32 x.w] 40)).size ?_; intro g1 c1 w1 ho1 hk1 hz1 hb1; have BBw1 : Below W.heap.size W w1 := (bel2 W (.cells #[] 40) (.cells #[.int .i64 x.f, .int .i64 x.t, .int .u32 x.w] 40)).trans hb1; have yP0 := (BBw1.cell (p := ⟨w.heap.size, 0, none⟩) S0.out).trans G0.out; have yP1 := (BBw1.cell (p := ⟨w.heap.size, 1, none⟩) S0.out).trans G1.out; have yP2 := (BBw1.cell (p := ⟨w.heap.size + 1, 0, none⟩) S1.out).trans Q0.out; have yP3 := (BBw1.cell (p := ⟨w.heap.size + 1, 1, none⟩) S1.out).trans Q1.out; have yP4 := (BBw1.cell (p := ⟨w.heap.size + 1, 2, none⟩) S1.out).trans Q2.out; have npa : w.heap.size ≠ w1.heap.size := Nat.ne_of_lt (Nat.lt_of_lt_of_le S0.out BBw1.size); have npb : w.heap.size + 1 ≠ w1.heap.size := Nat.ne_of_lt (Nat.lt_of_lt_of_le S1.out BBw1.size); have npc : w.heap.size ≠ w1.heap.size + 1 := Nat.ne_of_lt (Nat.lt_succ_of_lt (Nat.lt_of_lt_of_le S0.out BBw1.size)); have npd : w.heap.size + 1 ≠ w1.heap.size + 1 := Nat.ne_of_lt (Nat.lt_succ_of_lt (Nat.lt_of_lt_of_le S1.out BBw1.size)); have npe := npa.symm; have npf := npb.symm; have npg := npc.symm; have nph := npd.symm; have hX : w1.heap[W.heap.size + 1]? = some (.cells #[.int .i64 x.f, .int .i64 x.t, .int .u32 x.w] 40) := (hk1 (W.heap.size + 1) (lt_of_block (al2b W (.cells #[] 40) (.cells #[.int .i64 x.f, .int .i64 x.t, .int .u32 x.w] 40))) (by omega)).trans (al2b W (.cells #[] 40) (.cells #[.int .i64 x.f, .int .i64 x.t, .int .u32 x.w] 40)))
          | (refine wp_arcs (.tmp 69) (.tmp 71) rfl W.heap.size (W.heap.size) rfl (al2a W (.cells #[] 40) (.cells #[.int .i64 0, .slice none 0 0] 24)) (by omega) a l cap rfl HNN.out (HAR.out _ (bel2 W (.cells #[] 40) (.cells #[.int .i64 0, .slice none 0 0] 24))) HLB.out (bel2 W (.cells #[] 40) (.cells #[.int .i64 0, .slice none 0 0] 24)).size ?_; intro g1 c1 w1 ho1 hk1 hz1 hb1; have BBw1 : Below W.heap.size W w1 := (bel2 W (.cells #[] 40) (.cells #[.int .i64 0, .slice none 0 0] 24)).trans hb1; have yP0 := (BBw1.cell (p := ⟨w.heap.size, 0, none⟩) S0.out).trans G0.out; have yP1 := (BBw1.cell (p := ⟨w.heap.size, 1, none⟩) S0.out).trans G1.out; have yP2 := (BBw1.cell (p := ⟨w.heap.size + 1, 0, none⟩) S1.out).trans Q0.out; have yP3 := (BBw1.cell (p := ⟨w.heap.size + 1, 1, none⟩) S1.out).trans Q1.out; have yP4 := (BBw1.cell (p := ⟨w.heap.size + 1, 2, none⟩) S1.out).trans Q2.out; have npa : w.heap.size ≠ w1.heap.size := Nat.ne_of_lt (Nat.lt_of_lt_of_le S0.out BBw1.size); have npb : w.heap.size + 1 ≠ w1.heap.size := Nat.ne_of_lt (Nat.lt_of_lt_of_le S1.out BBw1.size); have npc : w.heap.size ≠ w1.heap.size + 1 := Nat.ne_of_lt (Nat.lt_succ_of_lt (Nat.lt_of_lt_of_le S0.out BBw1.size)); have npd : w.heap.size + 1 ≠ w1.heap.size + 1 := Nat.ne_of_lt (Nat.lt_succ_of_lt (Nat.lt_of_lt_of_le S1.out BBw1.size)); have npe := npa.symm; have npf := npb.symm; have npg := npc.symm; have nph := npd.symm; have hZ : w1.heap[W.heap.size + 1]? = some (.cells #[.int .i64 0, .slice none 0 0] 24) := (hk1 (W.heap.size + 1) (lt_of_block (al2b W (.cells #[] 40) (.cells #[.int .i64 0, .slice none 0 0] 24))) (by omega)).trans (al2b W (.cells #[] 40) (.cells #[.int .i64 0, .slice none 0 0] 24)); obtain ⟨⟨z0, z1⟩, zf0, zf1⟩ := two_cells hZ; have hZn := row_ne ho1 hZ)
          | (refine wp_arcs (.tmp 69) (.tmp 71) rfl W.heap.size (W.heap.size + 1) rfl (al2b W (.cells #[.int .i64 x.f, .int .i64 x.t, .int .u32 x.w] 40) (.cells #[] 40)) (by omega) a l cap rfl HNN.out (HAR.out _ (bel2 W (.cells #[.int .i64 x.f, .int .i64 x.t, .int .u32 x.w] 40) (.cells #[] 40))) HLB.out (bel2 W (.cells #[.int .i64 x.f, .int .i64 x.t, .int .u32 x.w] 40) (.cells #[] 40)).size ?_; intro g1 c1 w1 ho1 hk1 hz1 hb1; have BBw1 : Below W.heap.size W w1 := (bel2 W (.cells #[.int .i64 x.f, .int .i64 x.t, .int .u32 x.w] 40) (.cells #[] 40)).trans hb1; have yP0 := (BBw1.cell (p := ⟨w.heap.size, 0, none⟩) S0.out).trans G0.out; have yP1 := (BBw1.cell (p := ⟨w.heap.size, 1, none⟩) S0.out).trans G1.out; have yP2 := (BBw1.cell (p := ⟨w.heap.size + 1, 0, none⟩) S1.out).trans Q0.out; have yP3 := (BBw1.cell (p := ⟨w.heap.size + 1, 1, none⟩) S1.out).trans Q1.out; have yP4 := (BBw1.cell (p := ⟨w.heap.size + 1, 2, none⟩) S1.out).trans Q2.out; have npa : w.heap.size ≠ w1.heap.size := Nat.ne_of_lt (Nat.lt_of_lt_of_le S0.out BBw1.size); have npb : w.heap.size + 1 ≠ w1.heap.size := Nat.ne_of_lt (Nat.lt_of_lt_of_le S1.out BBw1.size); have npc : w.heap.size ≠ w1.heap.size + 1 := Nat.ne_of_lt (Nat.lt_succ_of_lt (Nat.lt_of_lt_of_le S0.out BBw1.size)); have npd : w.heap.size + 1 ≠ w1.heap.size + 1 := Nat.ne_of_lt (Nat.lt_succ_of_lt (Nat.lt_of_lt_of_le S1.out BBw1.size)); have npe := npa.symm; have npf := npb.symm; have npg := npc.symm; have nph := npd.symm; have hX : w1.heap[W.heap.size]? = some (.cells #[.int .i64 x.f, .int .i64 x.t, .int .u32 x.w] 40) := (hk1 (W.heap.size) (lt_of_block (al2a W (.cells #[.int .i64 x.f, .int .i64 x.t, .int .u32 x.w] 40) (.cells #[] 40))) (by omega)).trans (al2a W (.cells #[.int .i64 x.f, .int .i64 x.t, .int .u32 x.w] 40) (.cells #[] 40)))
          | (refine wp_arcs (.tmp 69) (.tmp 71) rfl W.heap.size (W.heap.size + 1) rfl (al2b W (.cells #[.int .i64 0, .slice none 0 0] 24) (.cells #[] 40)) (by omega) a l cap rfl HNN.out (HAR.out _ (bel2 W (.cells #[.int .i64 0, .slice none 0 0] 24) (.cells #[] 40))) HLB.out (bel2 W (.cells #[.int .i64 0, .slice none 0 0] 24) (.cells #[] 40)).size ?_; intro g1 c1 w1 ho1 hk1 hz1 hb1; have BBw1 : Below W.heap.size W w1 := (bel2 W (.cells #[.int .i64 0, .slice none 0 0] 24) (.cells #[] 40)).trans hb1; have yP0 := (BBw1.cell (p := ⟨w.heap.size, 0, none⟩) S0.out).trans G0.out; have yP1 := (BBw1.cell (p := ⟨w.heap.size, 1, none⟩) S0.out).trans G1.out; have yP2 := (BBw1.cell (p := ⟨w.heap.size + 1, 0, none⟩) S1.out).trans Q0.out; have yP3 := (BBw1.cell (p := ⟨w.heap.size + 1, 1, none⟩) S1.out).trans Q1.out; have yP4 := (BBw1.cell (p := ⟨w.heap.size + 1, 2, none⟩) S1.out).trans Q2.out; have npa : w.heap.size ≠ w1.heap.size := Nat.ne_of_lt (Nat.lt_of_lt_of_le S0.out BBw1.size); have npb : w.heap.size + 1 ≠ w1.heap.size := Nat.ne_of_lt (Nat.lt_of_lt_of_le S1.out BBw1.size); have npc : w.heap.size ≠ w1.heap.size + 1 := Nat.ne_of_lt (Nat.lt_succ_of_lt (Nat.lt_of_lt_of_le S0.out BBw1.size)); have npd : w.heap.size + 1 ≠ w1.heap.size + 1 := Nat.ne_of_lt (Nat.lt_succ_of_lt (Nat.lt_of_lt_of_le S1.out BBw1.size)); have npe := npa.symm; have npf := npb.symm; have npg := npc.symm; have nph := npd.symm; have hZ : w1.heap[W.heap.size]? = some (.cells #[.int .i64 0, .slice none 0 0] 24) := (hk1 (W.heap.size) (lt_of_block (al2a W (.cells #[.int .i64 0, .slice none 0 0] 24) (.cells #[] 40))) (by omega)).trans (al2a W (.cells #[.int .i64 0, .slice none 0 0] 24) (.cells #[] 40)); obtain ⟨⟨z0, z1⟩, zf0, zf1⟩ := two_cells hZ; have hZn := row_ne ho1 hZ)
          | (refine wp_arcs (.tmp 69) (.tmp 71) rfl W.heap.size (W.heap.size) rfl (al3a W (.cells #[] 40) (.cells #[.int .i64 x.f, .int .i64 x.t, .int .u32 x.w] 40) (.cells #[.int .i64 0, .slice none 0 0] 24)) (by omega) a l cap rfl HNN.out (HAR.out _ (bel3 W (.cells #[] 40) (.cells #[.int .i64 x.f, .int .i64 x.t, .int .u32 x.w] 40) (.cells #[.int .i64 0, .slice none 0 0] 24))) HLB.out (bel3 W (.cells #[] 40) (.cells #[.int .i64 x.f, .int .i64 x.t, .int .u32 x.w] 40) (.cells #[.int .i64 0, .slice none 0 0] 24)).size ?_; intro g1 c1 w1 ho1 hk1 hz1 hb1; have BBw1 : Below W.heap.size W w1 := (bel3 W (.cells #[] 40) (.cells #[.int .i64 x.f, .int .i64 x.t, .int .u32 x.w] 40) (.cells #[.int .i64 0, .slice none 0 0] 24)).trans hb1; have yP0 := (BBw1.cell (p := ⟨w.heap.size, 0, none⟩) S0.out).trans G0.out; have yP1 := (BBw1.cell (p := ⟨w.heap.size, 1, none⟩) S0.out).trans G1.out; have yP2 := (BBw1.cell (p := ⟨w.heap.size + 1, 0, none⟩) S1.out).trans Q0.out; have yP3 := (BBw1.cell (p := ⟨w.heap.size + 1, 1, none⟩) S1.out).trans Q1.out; have yP4 := (BBw1.cell (p := ⟨w.heap.size + 1, 2, none⟩) S1.out).trans Q2.out; have npa : w.heap.size ≠ w1.heap.size := Nat.ne_of_lt (Nat.lt_of_lt_of_le S0.out BBw1.size); have npb : w.heap.size + 1 ≠ w1.heap.size := Nat.ne_of_lt (Nat.lt_of_lt_of_le S1.out BBw1.size); have npc : w.heap.size ≠ w1.heap.size + 1 := Nat.ne_of_lt (Nat.lt_succ_of_lt (Nat.lt_of_lt_of_le S0.out BBw1.size)); have npd : w.heap.size + 1 ≠ w1.heap.size + 1 := Nat.ne_of_lt (Nat.lt_succ_of_lt (Nat.lt_of_lt_of_le S1.out BBw1.size)); have npe := npa.symm; have npf := npb.symm; have npg := npc.symm; have nph := npd.symm; have hX : w1.heap[W.heap.size + 1]? = some (.cells #[.int .i64 x.f, .int .i64 x.t, .int .u32 x.w] 40) := (hk1 (W.heap.size + 1) (lt_of_block (al3b W (.cells #[] 40) (.cells #[.int .i64 x.f, .int .i64 x.t, .int .u32 x.w] 40) (.cells #[.int .i64 0, .slice none 0 0] 24))) (by omega)).trans (al3b W (.cells #[] 40) (.cells #[.int .i64 x.f, .int .i64 x.t, .int .u32 x.w] 40) (.cells #[.int .i64 0, .slice none 0 0] 24)); have hZ : w1.heap[W.heap.size + 2]? = some (.cells #[.int .i64 0, .slice none 0 0] 24) := (hk1 (W.heap.size + 2) (lt_of_block (al3c W (.cells #[] 40) (.cells #[.int .i64 x.f, .int .i64 x.t, .int .u32 x.w] 40) (.cells #[.int .i64 0, .slice none 0 0] 24))) (by omega)).trans (al3c W (.cells #[] 40) (.cells #[.int .i64 x.f, .int .i64 x.t, .int .u32 x.w] 40) (.cells #[.int .i64 0, .slice none 0 0] 24)); obtain ⟨⟨z0, z1⟩, zf0, zf1⟩ := two_cells hZ; have hZn := row_ne ho1 hZ)
          | (refine wp_arcs (.tmp 69) (.tmp 71) rfl W.heap.size (W.heap.size) rfl (al3a W (.cells #[] 40) (.cells #[.int .i64 0, .slice none 0 0] 24) (.cells #[.int .i64 x.f, .int .i64 x.t, .int .u32 x.w] 40)) (by omega) a l cap rfl HNN.out (HAR.out _ (bel3 W (.cells #[] 40) (.cells #[.int .i64 0, .slice none 0 0] 24) (.cells #[.int .i64 x.f, .int .i64 x.t, .int .u32 x.w] 40))) HLB.out (bel3 W (.cells #[] 40) (.cells #[.int .i64 0, .slice none 0 0] 24) (.cells #[.int .i64 x.f, .int .i64 x.t, .int .u32 x.w] 40)).size ?_; intro g1 c1 w1 ho1 hk1 hz1 hb1; have BBw1 : Below W.heap.size W w1 := (bel3 W (.cells #[] 40) (.cells #[.int .i64 0, .slice none 0 0] 24) (.cells #[.int .i64 x.f, .int .i64 x.t, .int .u32 x.w] 40)).trans hb1; have yP0 := (BBw1.cell (p := ⟨w.heap.size, 0, none⟩) S0.out).trans G0.out; have yP1 := (BBw1.cell (p := ⟨w.heap.size, 1, none⟩) S0.out).trans G1.out; have yP2 := (BBw1.cell (p := ⟨w.heap.size + 1, 0, none⟩) S1.out).trans Q0.out; have yP3 := (BBw1.cell (p := ⟨w.heap.size + 1, 1, none⟩) S1.out).trans Q1.out; have yP4 := (BBw1.cell (p := ⟨w.heap.size + 1, 2, none⟩) S1.out).trans Q2.out; have npa : w.heap.size ≠ w1.heap.size := Nat.ne_of_lt (Nat.lt_of_lt_of_le S0.out BBw1.size); have npb : w.heap.size + 1 ≠ w1.heap.size := Nat.ne_of_lt (Nat.lt_of_lt_of_le S1.out BBw1.size); have npc : w.heap.size ≠ w1.heap.size + 1 := Nat.ne_of_lt (Nat.lt_succ_of_lt (Nat.lt_of_lt_of_le S0.out BBw1.size)); have npd : w.heap.size + 1 ≠ w1.heap.size + 1 := Nat.ne_of_lt (Nat.lt_succ_of_lt (Nat.lt_of_lt_of_le S1.out BBw1.size)); have npe := npa.symm; have npf := npb.symm; have npg := npc.symm; have nph := npd.symm; have hX : w1.heap[W.heap.size + 2]? = some (.cells #[.int .i64 x.f, .int .i64 x.t, .int .u32 x.w] 40) := (hk1 (W.heap.size + 2) (lt_of_block (al3c W (.cells #[] 40) (.cells #[.int .i64 0, .slice none 0 0] 24) (.cells #[.int .i64 x.f, .int .i64 x.t, .int .u32 x.w] 40))) (by omega)).trans (al3c W (.cells #[] 40) (.cells #[.int .i64 0, .slice none 0 0] 24) (.cells #[.int .i64 x.f, .int .i64 x.t, .int .u32 x.w] 40)); have hZ : w1.heap[W.heap.size + 1]? = some (.cells #[.int .i64 0, .slice none 0 0] 24) := (hk1 (W.heap.size + 1) (lt_of_block (al3b W (.cells #[] 40) (.cells #[.int .i64 0, .slice none 0 0] 24) (.cells #[.int .i64 x.f, .int .i64 x.t, .int .u32 x.w] 40))) (by omega)).trans (al3b W (.cells #[] 40) (.cells #[.int .i64 0, .slice none 0 0] 24) (.cells #[.int .i64 x.f, .int .i64 x.t, .int .u32 x.w] 40)); obtain ⟨⟨z0, z1⟩, zf0, zf1⟩ := two_cells hZ; have hZn := row_ne ho1 hZ)
          | (refine wp_arcs (.tmp 69) (.tmp 71) rfl W.heap.size (W.heap.size + 1) rfl (al3b W (.cells #[.int .i64 x.f, .int .i64 x.t, .int .u32 x.w] 40) (.cells #[] 40) (.cells #[.int .i64 0, .slice none 0 0] 24)) (by omega) a l cap rfl HNN.out (HAR.out _ (bel3 W (.cells #[.int .i64 x.f, .int .i64 x.t, .int .u32 x.w] 40) (.cells #[] 40) (.cells #[.int .i64 0, .slice none 0 0] 24))) HLB.out (bel3 W (.cells #[.int .i64 x.f, .int .i64 x.t, .int .u32 x.w] 40) (.cells #[] 40) (.cells #[.int .i64 0, .slice none 0 0] 24)).size ?_; intro g1 c1 w1 ho1 hk1 hz1 hb1; have BBw1 : Below W.heap.size W w1 := (bel3 W (.cells #[.int .i64 x.f, .int .i64 x.t, .int .u32 x.w] 40) (.cells #[] 40) (.cells #[.int .i64 0, .slice none 0 0] 24)).trans hb1; have yP0 := (BBw1.cell (p := ⟨w.heap.size, 0, none⟩) S0.out).trans G0.out; have yP1 := (BBw1.cell (p := ⟨w.heap.size, 1, none⟩) S0.out).trans G1.out; have yP2 := (BBw1.cell (p := ⟨w.heap.size + 1, 0, none⟩) S1.out).trans Q0.out; have yP3 := (BBw1.cell (p := ⟨w.heap.size + 1, 1, none⟩) S1.out).trans Q1.out; have yP4 := (BBw1.cell (p := ⟨w.heap.size + 1, 2, none⟩) S1.out).trans Q2.out; have npa : w.heap.size ≠ w1.heap.size := Nat.ne_of_lt (Nat.lt_of_lt_of_le S0.out BBw1.size); have npb : w.heap.size + 1 ≠ w1.heap.size := Nat.ne_of_lt (Nat.lt_of_lt_of_le S1.out BBw1.size); have npc : w.heap.size ≠ w1.heap.size + 1 := Nat.ne_of_lt (Nat.lt_succ_of_lt (Nat.lt_of_lt_of_le S0.out BBw1.size)); have npd : w.heap.size + 1 ≠ w1.heap.size + 1 := Nat.ne_of_lt (Nat.lt_succ_of_lt (Nat.lt_of_lt_of_le S1.out BBw1.size)); have npe := npa.symm; have npf := npb.symm; have npg := npc.symm; have nph := npd.symm; have hX : w1.heap[W.heap.size]? = some (.cells #[.int .i64 x.f, .int .i64 x.t, .int .u32 x.w] 40) := (hk1 (W.heap.size) (lt_of_block (al3a W (.cells #[.int .i64 x.f, .int .i64 x.t, .int .u32 x.w] 40) (.cells #[] 40) (.cells #[.int .i64 0, .slice none 0 0] 24))) (by omega)).trans (al3a W (.cells #[.int .i64 x.f, .int .i64 x.t, .int .u32 x.w] 40) (.cells #[] 40) (.cells #[.int .i64 0, .slice none 0 0] 24)); have hZ : w1.heap[W.heap.size + 2]? = some (.cells #[.int .i64 0, .slice none 0 0] 24) := (hk1 (W.heap.size + 2) (lt_of_block (al3c W (.cells #[.int .i64 x.f, .int .i64 x.t, .int .u32 x.w] 40) (.cells #[] 40) (.cells #[.int .i64 0, .slice none 0 0] 24))) (by omega)).trans (al3c W (.cells #[.int .i64 x.f, .int .i64 x.t, .int .u32 x.w] 40) (.cells #[] 40) (.cells #[.int .i64 0, .slice none 0 0] 24)); obtain ⟨⟨z0, z1⟩, zf0, zf1⟩ := two_cells hZ; have hZn := row_ne ho1 hZ)
          | (refine wp_arcs (.tmp 69) (.tmp 71) rfl W.heap.size (W.heap.size + 2) rfl (al3c W (.cells #[.int .i64 x.f, .int .i64 x.t, .int .u32 x.w] 40) (.cells #[.int .i64 0, .slice none 0 0] 24) (.cells #[] 40)) (by omega) a l cap rfl HNN.out (HAR.out _ (bel3 W (.cells #[.int .i64 x.f, .int .i64 x.t, .int .u32 x.w] 40) (.cells #[.int .i64 0, .slice none 0 0] 24) (.cells #[] 40))) HLB.out (bel3 W (.cells #[.int .i64 x.f, .int .i64 x.t, .int .u32 x.w] 40) (.cells #[.int .i64 0, .slice none 0 0] 24) (.cells #[] 40)).size ?_; intro g1 c1 w1 ho1 hk1 hz1 hb1; have BBw1 : Below W.heap.size W w1 := (bel3 W (.cells #[.int .i64 x.f, .int .i64 x.t, .int .u32 x.w] 40) (.cells #[.int .i64 0, .slice none 0 0] 24) (.cells #[] 40)).trans hb1; have yP0 := (BBw1.cell (p := ⟨w.heap.size, 0, none⟩) S0.out).trans G0.out; have yP1 := (BBw1.cell (p := ⟨w.heap.size, 1, none⟩) S0.out).trans G1.out; have yP2 := (BBw1.cell (p := ⟨w.heap.size + 1, 0, none⟩) S1.out).trans Q0.out; have yP3 := (BBw1.cell (p := ⟨w.heap.size + 1, 1, none⟩) S1.out).trans Q1.out; have yP4 := (BBw1.cell (p := ⟨w.heap.size + 1, 2, none⟩) S1.out).trans Q2.out; have npa : w.heap.size ≠ w1.heap.size := Nat.ne_of_lt (Nat.lt_of_lt_of_le S0.out BBw1.size); have npb : w.heap.size + 1 ≠ w1.heap.size := Nat.ne_of_lt (Nat.lt_of_lt_of_le S1.out BBw1.size); have npc : w.heap.size ≠ w1.heap.size + 1 := Nat.ne_of_lt (Nat.lt_succ_of_lt (Nat.lt_of_lt_of_le S0.out BBw1.size)); have npd : w.heap.size + 1 ≠ w1.heap.size + 1 := Nat.ne_of_lt (Nat.lt_succ_of_lt (Nat.lt_of_lt_of_le S1.out BBw1.size)); have npe := npa.symm; have npf := npb.symm; have npg := npc.symm; have nph := npd.symm; have hX : w1.heap[W.heap.size]? = some (.cells #[.int .i64 x.f, .int .i64 x.t, .int .u32 x.w] 40) := (hk1 (W.heap.size) (lt_of_block (al3a W (.cells #[.int .i64 x.f, .int .i64 x.t, .int .u32 x.w] 40) (.cells #[.int .i64 0, .slice none 0 0] 24) (.cells #[] 40))) (by omega)).trans (al3a W (.cells #[.int .i64 x.f, .int .i64 x.t, .int .u32 x.w] 40) (.cells #[.int .i64 0, .slice none 0 0] 24) (.cells #[] 40)); have hZ : w1.heap[W.heap.size + 1]? = some (.cells #[.int .i64 0, .slice none 0 0] 24) := (hk1 (W.heap.size + 1) (lt_of_block (al3b W (.cells #[.int .i64 x.f, .int .i64 x.t, .int .u32 x.w] 40) (.cells #[.int .i64 0, .slice none 0 0] 24) (.cells #[] 40))) (by omega)).trans (al3b W (.cells #[.int .i64 x.f, .int .i64 x.t, .int .u32 x.w] 40) (.cells #[.int .i64 0, .slice none 0 0] 24) (.cells #[] 40)); obtain ⟨⟨z0, z1⟩, zf0, zf1⟩ := two_cells hZ; have hZn := row_ne ho1 hZ)
          | (refine wp_arcs (.tmp 69) (.tmp 71) rfl W.heap.size (W.heap.size + 1) rfl (al3b W (.cells #[.int .i64 0, .slice none 0 0] 24) (.cells #[] 40) (.cells #[.int .i64 x.f, .int .i64 x.t, .int .u32 x.w] 40)) (by omega) a l cap rfl HNN.out (HAR.out _ (bel3 W (.cells #[.int .i64 0, .slice none 0 0] 24) (.cells #[] 40) (.cells #[.int .i64 x.f, .int .i64 x.t, .int .u32 x.w] 40))) HLB.out (bel3 W (.cells #[.int .i64 0, .slice none 0 0] 24) (.cells #[] 40) (.cells #[.int .i64 x.f, .int .i64 x.t, .int .u32 x.w] 40)).size ?_; intro g1 c1 w1 ho1 hk1 hz1 hb1; have BBw1 : Below W.heap.size W w1 := (bel3 W (.cells #[.int .i64 0, .slice none 0 0] 24) (.cells #[] 40) (.cells #[.int .i64 x.f, .int .i64 x.t, .int .u32 x.w] 40)).trans hb1; have yP0 := (BBw1.cell (p := ⟨w.heap.size, 0, none⟩) S0.out).trans G0.out; have yP1 := (BBw1.cell (p := ⟨w.heap.size, 1, none⟩) S0.out).trans G1.out; have yP2 := (BBw1.cell (p := ⟨w.heap.size + 1, 0, none⟩) S1.out).trans Q0.out; have yP3 := (BBw1.cell (p := ⟨w.heap.size + 1, 1, none⟩) S1.out).trans Q1.out; have yP4 := (BBw1.cell (p := ⟨w.heap.size + 1, 2, none⟩) S1.out).trans Q2.out; have npa : w.heap.size ≠ w1.heap.size := Nat.ne_of_lt (Nat.lt_of_lt_of_le S0.out BBw1.size); have npb : w.heap.size + 1 ≠ w1.heap.size := Nat.ne_of_lt (Nat.lt_of_lt_of_le S1.out BBw1.size); have npc : w.heap.size ≠ w1.heap.size + 1 := Nat.ne_of_lt (Nat.lt_succ_of_lt (Nat.lt_of_lt_of_le S0.out BBw1.size)); have npd : w.heap.size + 1 ≠ w1.heap.size + 1 := Nat.ne_of_lt (Nat.lt_succ_of_lt (Nat.lt_of_lt_of_le S1.out BBw1.size)); have npe := npa.symm; have npf := npb.symm; have npg := npc.symm; have nph := npd.symm; have hX : w1.heap[W.heap.size + 2]? = some (.cells #[.int .i64 x.f, .int .i64 x.t, .int .u32 x.w] 40) := (hk1 (W.heap.size + 2) (lt_of_block (al3c W (.cells #[.int .i64 0, .slice none 0 0] 24) (.cells #[] 40) (.cells #[.int .i64 x.f, .int .i64 x.t, .int .u32 x.w] 40))) (by omega)).trans (al3c W (.cells #[.int .i64 0, .slice none 0 0] 24) (.cells #[] 40) (.cells #[.int .i64 x.f, .int .i64 x.t, .int .u32 x.w] 40)); have hZ : w1.heap[W.heap.size]? = some (.cells #[.int .i64 0, .slice none 0 0] 24) := (hk1 (W.heap.size) (lt_of_block (al3a W (.cells #[.int .i64 0, .slice none 0 0] 24) (.cells #[] 40) (.cells #[.int .i64 x.f, .int .i64 x.t, .int .u32 x.w] 40))) (by omega)).trans (al3a W (.cells #[.int .i64 0, .slice none 0 0] 24) (.cells #[] 40) (.cells #[.int .i64 x.f, .int .i64 x.t, .int .u32 x.w] 40)); obtain ⟨⟨z0, z1⟩, zf0, zf1⟩ := two_cells hZ; have hZn := row_ne ho1 hZ)
          | (refine wp_arcs (.tmp 69) (.tmp 71) rfl W.heap.size (W.heap.size + 2) rfl (al3c W (.cells #[.int .i64 0, .slice none 0 0] 24) (.cells #[.int .i64 x.f, .int .i64 x.t, .int .u32 x.w] 40) (.cells #[] 40)) (by omega) a l cap rfl HNN.out (HAR.out _ (bel3 W (.cells #[.int .i64 0, .slice none 0 0] 24) (.cells #[.int .i64 x.f, .int .i64 x.t, .int .u32 x.w] 40) (.cells #[] 40))) HLB.out (bel3 W (.cells #[.int .i64 0, .slice none 0 0] 24) (.cells #[.int .i64 x.f, .int .i64 x.t, .int .u32 x.w] 40) (.cells #[] 40)).size ?_; intro g1 c1 w1 ho1 hk1 hz1 hb1; have BBw1 : Below W.heap.size W w1 := (bel3 W (.cells #[.int .i64 0, .slice none 0 0] 24) (.cells #[.int .i64 x.f, .int .i64 x.t, .int .u32 x.w] 40) (.cells #[] 40)).trans hb1; have yP0 := (BBw1.cell (p := ⟨w.heap.size, 0, none⟩) S0.out).trans G0.out; have yP1 := (BBw1.cell (p := ⟨w.heap.size, 1, none⟩) S0.out).trans G1.out; have yP2 := (BBw1.cell (p := ⟨w.heap.size + 1, 0, none⟩) S1.out).trans Q0.out; have yP3 := (BBw1.cell (p := ⟨w.heap.size + 1, 1, none⟩) S1.out).trans Q1.out; have yP4 := (BBw1.cell (p := ⟨w.heap.size + 1, 2, none⟩) S1.out).trans Q2.out; have npa : w.heap.size ≠ w1.heap.size := Nat.ne_of_lt (Nat.lt_of_lt_of_le S0.out BBw1.size); have npb : w.heap.size + 1 ≠ w1.heap.size := Nat.ne_of_lt (Nat.lt_of_lt_of_le S1.out BBw1.size); have npc : w.heap.size ≠ w1.heap.size + 1 := Nat.ne_of_lt (Nat.lt_succ_of_lt (Nat.lt_of_lt_of_le S0.out BBw1.size)); have npd : w.heap.size + 1 ≠ w1.heap.size + 1 := Nat.ne_of_lt (Nat.lt_succ_of_lt (Nat.lt_of_lt_of_le S1.out BBw1.size)); have npe := npa.symm; have npf := npb.symm; have npg := npc.symm; have nph := npd.symm; have hX : w1.heap[W.heap.size + 1]? = some (.cells #[.int .i64 x.f, .int .i64 x.t, .int .u32 x.w] 40) := (hk1 (W.heap.size + 1) (lt_of_block (al3b W (.cells #[.int .i64 0, .slice none 0 0] 24) (.cells #[.int .i64 x.f, .int .i64 x.t, .int .u32 x.w] 40) (.cells #[] 40))) (by omega)).trans (al3b W (.cells #[.int .i64 0, .slice none 0 0] 24) (.cells #[.int .i64 x.f, .int .i64 x.t, .int .u32 x.w] 40) (.cells #[] 40)); have hZ : w1.heap[W.heap.size]? = some (.cells #[.int .i64 0, .slice none 0 0] 24) := (hk1 (W.heap.size) (lt_of_block (al3a W (.cells #[.int .i64 0, .slice none 0 0] 24) (.cells #[.int .i64 x.f, .int .i64 x.t, .int .u32 x.w] 40) (.cells #[] 40))) (by omega)).trans (al3a W (.cells #[.int .i64 0, .slice none 0 0] 24) (.cells #[.int .i64 x.f, .int .i64 x.t, .int .u32 x.w] 40) (.cells #[] 40)); obtain ⟨⟨z0, z1⟩, zf0, zf1⟩ := two_cells hZ; have hZn := row_ne ho1 hZ)
          | (refine wp_arc1 (.tmp 72) (.tmp 74) rfl W.heap.size g1 c1 l rfl ho1 (W.heap.size) x rfl (hX) HLB.out BBw1.size ?_; intro g2 c2 w2 ho2 hk2 hz2 hb2; have BBw2 : Below W.heap.size W w2 := BBw1.trans hb2; have yQ0 := (BBw2.cell (p := ⟨w.heap.size, 0, none⟩) S0.out).trans G0.out; have yQ1 := (BBw2.cell (p := ⟨w.heap.size, 1, none⟩) S0.out).trans G1.out; have yQ2 := (BBw2.cell (p := ⟨w.heap.size + 1, 0, none⟩) S1.out).trans Q0.out; have yQ3 := (BBw2.cell (p := ⟨w.heap.size + 1, 1, none⟩) S1.out).trans Q1.out; have yQ4 := (BBw2.cell (p := ⟨w.heap.size + 1, 2, none⟩) S1.out).trans Q2.out; have nqa : w.heap.size ≠ w2.heap.size := Nat.ne_of_lt (Nat.lt_of_lt_of_le S0.out BBw2.size); have nqb : w.heap.size + 1 ≠ w2.heap.size := Nat.ne_of_lt (Nat.lt_of_lt_of_le S1.out BBw2.size); have nqc : w.heap.size ≠ w2.heap.size + 1 := Nat.ne_of_lt (Nat.lt_succ_of_lt (Nat.lt_of_lt_of_le S0.out BBw2.size)); have nqd : w.heap.size + 1 ≠ w2.heap.size + 1 := Nat.ne_of_lt (Nat.lt_succ_of_lt (Nat.lt_of_lt_of_le S1.out BBw2.size)); have nqe := nqa.symm; have nqf := nqb.symm; have nqg := nqc.symm; have nqh := nqd.symm; try (have hZ2 := (hk2 _ (lt_of_block hZ) (fun e => hZn e.symm)).trans hZ; obtain ⟨⟨z0, z1⟩, zf0, zf1⟩ := two_cells hZ2; have hZm := row_ne ho2 hZ2))
          | (refine wp_arc1 (.tmp 72) (.tmp 74) rfl W.heap.size g1 c1 l rfl (ho1.alloc _) (W.heap.size) x rfl ((Below.heap_alloc w1 (.cells #[.int .i64 0, .slice none 0 0] 24) _ (lt_of_block hX)).trans hX) HLB.out (BBw1.trans ((belo1 w1 (.cells #[.int .i64 0, .slice none 0 0] 24)).mono BBw1.size)).size ?_; intro g2 c2 w2 ho2 hk2 hz2 hb2; have BBw2 : Below W.heap.size W w2 := (BBw1.trans ((belo1 w1 (.cells #[.int .i64 0, .slice none 0 0] 24)).mono BBw1.size)).trans hb2; have yQ0 := (BBw2.cell (p := ⟨w.heap.size, 0, none⟩) S0.out).trans G0.out; have yQ1 := (BBw2.cell (p := ⟨w.heap.size, 1, none⟩) S0.out).trans G1.out; have yQ2 := (BBw2.cell (p := ⟨w.heap.size + 1, 0, none⟩) S1.out).trans Q0.out; have yQ3 := (BBw2.cell (p := ⟨w.heap.size + 1, 1, none⟩) S1.out).trans Q1.out; have yQ4 := (BBw2.cell (p := ⟨w.heap.size + 1, 2, none⟩) S1.out).trans Q2.out; have nqa : w.heap.size ≠ w2.heap.size := Nat.ne_of_lt (Nat.lt_of_lt_of_le S0.out BBw2.size); have nqb : w.heap.size + 1 ≠ w2.heap.size := Nat.ne_of_lt (Nat.lt_of_lt_of_le S1.out BBw2.size); have nqc : w.heap.size ≠ w2.heap.size + 1 := Nat.ne_of_lt (Nat.lt_succ_of_lt (Nat.lt_of_lt_of_le S0.out BBw2.size)); have nqd : w.heap.size + 1 ≠ w2.heap.size + 1 := Nat.ne_of_lt (Nat.lt_succ_of_lt (Nat.lt_of_lt_of_le S1.out BBw2.size)); have nqe := nqa.symm; have nqf := nqb.symm; have nqg := nqc.symm; have nqh := nqd.symm; have hZ2 : w2.heap[w1.heap.size]? = some (.cells #[.int .i64 0, .slice none 0 0] 24) := (hk2 w1.heap.size (by simp) (by have := (ho1.lt g1 rfl).2; omega)).trans (heap_top w1 _); obtain ⟨⟨z0, z1⟩, zf0, zf1⟩ := two_cells hZ2; have hZm := row_ne ho2 hZ2)
          | (refine wp_arc1 (.tmp 72) (.tmp 74) rfl W.heap.size g1 c1 l rfl ho1 (W.heap.size + 1) x rfl (hX) HLB.out BBw1.size ?_; intro g2 c2 w2 ho2 hk2 hz2 hb2; have BBw2 : Below W.heap.size W w2 := BBw1.trans hb2; have yQ0 := (BBw2.cell (p := ⟨w.heap.size, 0, none⟩) S0.out).trans G0.out; have yQ1 := (BBw2.cell (p := ⟨w.heap.size, 1, none⟩) S0.out).trans G1.out; have yQ2 := (BBw2.cell (p := ⟨w.heap.size + 1, 0, none⟩) S1.out).trans Q0.out; have yQ3 := (BBw2.cell (p := ⟨w.heap.size + 1, 1, none⟩) S1.out).trans Q1.out; have yQ4 := (BBw2.cell (p := ⟨w.heap.size + 1, 2, none⟩) S1.out).trans Q2.out; have nqa : w.heap.size ≠ w2.heap.size := Nat.ne_of_lt (Nat.lt_of_lt_of_le S0.out BBw2.size); have nqb : w.heap.size + 1 ≠ w2.heap.size := Nat.ne_of_lt (Nat.lt_of_lt_of_le S1.out BBw2.size); have nqc : w.heap.size ≠ w2.heap.size + 1 := Nat.ne_of_lt (Nat.lt_succ_of_lt (Nat.lt_of_lt_of_le S0.out BBw2.size)); have nqd : w.heap.size + 1 ≠ w2.heap.size + 1 := Nat.ne_of_lt (Nat.lt_succ_of_lt (Nat.lt_of_lt_of_le S1.out BBw2.size)); have nqe := nqa.symm; have nqf := nqb.symm; have nqg := nqc.symm; have nqh := nqd.symm; try (have hZ2 := (hk2 _ (lt_of_block hZ) (fun e => hZn e.symm)).trans hZ; obtain ⟨⟨z0, z1⟩, zf0, zf1⟩ := two_cells hZ2; have hZm := row_ne ho2 hZ2))
          | (refine wp_arc1 (.tmp 72) (.tmp 74) rfl W.heap.size g1 c1 l rfl (ho1.alloc _) (W.heap.size + 1) x rfl ((Below.heap_alloc w1 (.cells #[.int .i64 0, .slice none 0 0] 24) _ (lt_of_block hX)).trans hX) HLB.out (BBw1.trans ((belo1 w1 (.cells #[.int .i64 0, .slice none 0 0] 24)).mono BBw1.size)).size ?_; intro g2 c2 w2 ho2 hk2 hz2 hb2; have BBw2 : Below W.heap.size W w2 := (BBw1.trans ((belo1 w1 (.cells #[.int .i64 0, .slice none 0 0] 24)).mono BBw1.size)).trans hb2; have yQ0 := (BBw2.cell (p := ⟨w.heap.size, 0, none⟩) S0.out).trans G0.out; have yQ1 := (BBw2.cell (p := ⟨w.heap.size, 1, none⟩) S0.out).trans G1.out; have yQ2 := (BBw2.cell (p := ⟨w.heap.size + 1, 0, none⟩) S1.out).trans Q0.out; have yQ3 := (BBw2.cell (p := ⟨w.heap.size + 1, 1, none⟩) S1.out).trans Q1.out; have yQ4 := (BBw2.cell (p := ⟨w.heap.size + 1, 2, none⟩) S1.out).trans Q2.out; have nqa : w.heap.size ≠ w2.heap.size := Nat.ne_of_lt (Nat.lt_of_lt_of_le S0.out BBw2.size); have nqb : w.heap.size + 1 ≠ w2.heap.size := Nat.ne_of_lt (Nat.lt_of_lt_of_le S1.out BBw2.size); have nqc : w.heap.size ≠ w2.heap.size + 1 := Nat.ne_of_lt (Nat.lt_succ_of_lt (Nat.lt_of_lt_of_le S0.out BBw2.size)); have nqd : w.heap.size + 1 ≠ w2.heap.size + 1 := Nat.ne_of_lt (Nat.lt_succ_of_lt (Nat.lt_of_lt_of_le S1.out BBw2.size)); have nqe := nqa.symm; have nqf := nqb.symm; have nqg := nqc.symm; have nqh := nqd.symm; have hZ2 : w2.heap[w1.heap.size]? = some (.cells #[.int .i64 0, .slice none 0 0] 24) := (hk2 w1.heap.size (by simp) (by have := (ho1.lt g1 rfl).2; omega)).trans (heap_top w1 _); obtain ⟨⟨z0, z1⟩, zf0, zf1⟩ := two_cells hZ2; have hZm := row_ne ho2 hZ2)
          | (refine wp_arc1 (.tmp 72) (.tmp 74) rfl W.heap.size g1 c1 l rfl ho1 (W.heap.size + 2) x rfl (hX) HLB.out BBw1.size ?_; intro g2 c2 w2 ho2 hk2 hz2 hb2; have BBw2 : Below W.heap.size W w2 := BBw1.trans hb2; have yQ0 := (BBw2.cell (p := ⟨w.heap.size, 0, none⟩) S0.out).trans G0.out; have yQ1 := (BBw2.cell (p := ⟨w.heap.size, 1, none⟩) S0.out).trans G1.out; have yQ2 := (BBw2.cell (p := ⟨w.heap.size + 1, 0, none⟩) S1.out).trans Q0.out; have yQ3 := (BBw2.cell (p := ⟨w.heap.size + 1, 1, none⟩) S1.out).trans Q1.out; have yQ4 := (BBw2.cell (p := ⟨w.heap.size + 1, 2, none⟩) S1.out).trans Q2.out; have nqa : w.heap.size ≠ w2.heap.size := Nat.ne_of_lt (Nat.lt_of_lt_of_le S0.out BBw2.size); have nqb : w.heap.size + 1 ≠ w2.heap.size := Nat.ne_of_lt (Nat.lt_of_lt_of_le S1.out BBw2.size); have nqc : w.heap.size ≠ w2.heap.size + 1 := Nat.ne_of_lt (Nat.lt_succ_of_lt (Nat.lt_of_lt_of_le S0.out BBw2.size)); have nqd : w.heap.size + 1 ≠ w2.heap.size + 1 := Nat.ne_of_lt (Nat.lt_succ_of_lt (Nat.lt_of_lt_of_le S1.out BBw2.size)); have nqe := nqa.symm; have nqf := nqb.symm; have nqg := nqc.symm; have nqh := nqd.symm; try (have hZ2 := (hk2 _ (lt_of_block hZ) (fun e => hZn e.symm)).trans hZ; obtain ⟨⟨z0, z1⟩, zf0, zf1⟩ := two_cells hZ2; have hZm := row_ne ho2 hZ2))
          | (refine wp_arc1 (.tmp 72) (.tmp 74) rfl W.heap.size g1 c1 l rfl (ho1.alloc _) (W.heap.size + 2) x rfl ((Below.heap_alloc w1 (.cells #[.int .i64 0, .slice none 0 0] 24) _ (lt_of_block hX)).trans hX) HLB.out (BBw1.trans ((belo1 w1 (.cells #[.int .i64 0, .slice none 0 0] 24)).mono BBw1.size)).size ?_; intro g2 c2 w2 ho2 hk2 hz2 hb2; have BBw2 : Below W.heap.size W w2 := (BBw1.trans ((belo1 w1 (.cells #[.int .i64 0, .slice none 0 0] 24)).mono BBw1.size)).trans hb2; have yQ0 := (BBw2.cell (p := ⟨w.heap.size, 0, none⟩) S0.out).trans G0.out; have yQ1 := (BBw2.cell (p := ⟨w.heap.size, 1, none⟩) S0.out).trans G1.out; have yQ2 := (BBw2.cell (p := ⟨w.heap.size + 1, 0, none⟩) S1.out).trans Q0.out; have yQ3 := (BBw2.cell (p := ⟨w.heap.size + 1, 1, none⟩) S1.out).trans Q1.out; have yQ4 := (BBw2.cell (p := ⟨w.heap.size + 1, 2, none⟩) S1.out).trans Q2.out; have nqa : w.heap.size ≠ w2.heap.size := Nat.ne_of_lt (Nat.lt_of_lt_of_le S0.out BBw2.size); have nqb : w.heap.size + 1 ≠ w2.heap.size := Nat.ne_of_lt (Nat.lt_of_lt_of_le S1.out BBw2.size); have nqc : w.heap.size ≠ w2.heap.size + 1 := Nat.ne_of_lt (Nat.lt_succ_of_lt (Nat.lt_of_lt_of_le S0.out BBw2.size)); have nqd : w.heap.size + 1 ≠ w2.heap.size + 1 := Nat.ne_of_lt (Nat.lt_succ_of_lt (Nat.lt_of_lt_of_le S1.out BBw2.size)); have nqe := nqa.symm; have nqf := nqb.symm; have nqg := nqc.symm; have nqh := nqd.symm; have hZ2 : w2.heap[w1.heap.size]? = some (.cells #[.int .i64 0, .slice none 0 0] 24) := (hk2 w1.heap.size (by simp) (by have := (ho1.lt g1 rfl).2; omega)).trans (heap_top w1 _); obtain ⟨⟨z0, z1⟩, zf0, zf1⟩ := two_cells hZ2; have hZm := row_ne ho2 hZ2)
          | (refine wp_arc1 (.tmp 72) (.tmp 74) rfl W.heap.size g1 c1 l rfl (ho1.alloc _) (w1.heap.size) x rfl (heap_top w1 _) HLB.out (BBw1.trans ((belo1 w1 (.cells #[.int .i64 x.f, .int .i64 x.t, .int .u32 x.w] 40)).mono BBw1.size)).size ?_; intro g2 c2 w2 ho2 hk2 hz2 hb2; have BBw2 : Below W.heap.size W w2 := (BBw1.trans ((belo1 w1 (.cells #[.int .i64 x.f, .int .i64 x.t, .int .u32 x.w] 40)).mono BBw1.size)).trans hb2; have yQ0 := (BBw2.cell (p := ⟨w.heap.size, 0, none⟩) S0.out).trans G0.out; have yQ1 := (BBw2.cell (p := ⟨w.heap.size, 1, none⟩) S0.out).trans G1.out; have yQ2 := (BBw2.cell (p := ⟨w.heap.size + 1, 0, none⟩) S1.out).trans Q0.out; have yQ3 := (BBw2.cell (p := ⟨w.heap.size + 1, 1, none⟩) S1.out).trans Q1.out; have yQ4 := (BBw2.cell (p := ⟨w.heap.size + 1, 2, none⟩) S1.out).trans Q2.out; have nqa : w.heap.size ≠ w2.heap.size := Nat.ne_of_lt (Nat.lt_of_lt_of_le S0.out BBw2.size); have nqb : w.heap.size + 1 ≠ w2.heap.size := Nat.ne_of_lt (Nat.lt_of_lt_of_le S1.out BBw2.size); have nqc : w.heap.size ≠ w2.heap.size + 1 := Nat.ne_of_lt (Nat.lt_succ_of_lt (Nat.lt_of_lt_of_le S0.out BBw2.size)); have nqd : w.heap.size + 1 ≠ w2.heap.size + 1 := Nat.ne_of_lt (Nat.lt_succ_of_lt (Nat.lt_of_lt_of_le S1.out BBw2.size)); have nqe := nqa.symm; have nqf := nqb.symm; have nqg := nqc.symm; have nqh := nqd.symm; try (have hZ2 := (hk2 _ (Nat.lt_of_lt_of_le (lt_of_block hZ) (by simp)) (fun e => hZn e.symm)).trans ((Below.heap_alloc w1 _ _ (lt_of_block hZ)).trans hZ); obtain ⟨⟨z0, z1⟩, zf0, zf1⟩ := two_cells hZ2; have hZm := row_ne ho2 hZ2))
          | (refine wp_arc1 (.tmp 72) (.tmp 74) rfl W.heap.size g1 c1 l rfl ((ho1.alloc _).alloc _) (w1.heap.size) x rfl ((Below.heap_alloc _ _ _ (by simp)).trans (heap_top w1 _)) HLB.out (BBw1.trans ((belo2 w1 (.cells #[.int .i64 x.f, .int .i64 x.t, .int .u32 x.w] 40) (.cells #[.int .i64 0, .slice none 0 0] 24)).mono BBw1.size)).size ?_; intro g2 c2 w2 ho2 hk2 hz2 hb2; have BBw2 : Below W.heap.size W w2 := (BBw1.trans ((belo2 w1 (.cells #[.int .i64 x.f, .int .i64 x.t, .int .u32 x.w] 40) (.cells #[.int .i64 0, .slice none 0 0] 24)).mono BBw1.size)).trans hb2; have yQ0 := (BBw2.cell (p := ⟨w.heap.size, 0, none⟩) S0.out).trans G0.out; have yQ1 := (BBw2.cell (p := ⟨w.heap.size, 1, none⟩) S0.out).trans G1.out; have yQ2 := (BBw2.cell (p := ⟨w.heap.size + 1, 0, none⟩) S1.out).trans Q0.out; have yQ3 := (BBw2.cell (p := ⟨w.heap.size + 1, 1, none⟩) S1.out).trans Q1.out; have yQ4 := (BBw2.cell (p := ⟨w.heap.size + 1, 2, none⟩) S1.out).trans Q2.out; have nqa : w.heap.size ≠ w2.heap.size := Nat.ne_of_lt (Nat.lt_of_lt_of_le S0.out BBw2.size); have nqb : w.heap.size + 1 ≠ w2.heap.size := Nat.ne_of_lt (Nat.lt_of_lt_of_le S1.out BBw2.size); have nqc : w.heap.size ≠ w2.heap.size + 1 := Nat.ne_of_lt (Nat.lt_succ_of_lt (Nat.lt_of_lt_of_le S0.out BBw2.size)); have nqd : w.heap.size + 1 ≠ w2.heap.size + 1 := Nat.ne_of_lt (Nat.lt_succ_of_lt (Nat.lt_of_lt_of_le S1.out BBw2.size)); have nqe := nqa.symm; have nqf := nqb.symm; have nqg := nqc.symm; have nqh := nqd.symm; have hZ2 : w2.heap[w1.heap.size + 1]? = some (.cells #[.int .i64 0, .slice none 0 0] 24) := (hk2 (w1.heap.size + 1) (by simp) (by have := (ho1.lt g1 rfl).2; omega)).trans (heap_top_at _ _ _ (by simp)); obtain ⟨⟨z0, z1⟩, zf0, zf1⟩ := two_cells hZ2; have hZm := row_ne ho2 hZ2)
          | (refine wp_arc1 (.tmp 72) (.tmp 74) rfl W.heap.size g1 c1 l rfl ((ho1.alloc _).alloc _) (w1.heap.size + 1) x rfl (heap_top_at _ _ _ (by simp)) HLB.out (BBw1.trans ((belo2 w1 (.cells #[.int .i64 0, .slice none 0 0] 24) (.cells #[.int .i64 x.f, .int .i64 x.t, .int .u32 x.w] 40)).mono BBw1.size)).size ?_; intro g2 c2 w2 ho2 hk2 hz2 hb2; have BBw2 : Below W.heap.size W w2 := (BBw1.trans ((belo2 w1 (.cells #[.int .i64 0, .slice none 0 0] 24) (.cells #[.int .i64 x.f, .int .i64 x.t, .int .u32 x.w] 40)).mono BBw1.size)).trans hb2; have yQ0 := (BBw2.cell (p := ⟨w.heap.size, 0, none⟩) S0.out).trans G0.out; have yQ1 := (BBw2.cell (p := ⟨w.heap.size, 1, none⟩) S0.out).trans G1.out; have yQ2 := (BBw2.cell (p := ⟨w.heap.size + 1, 0, none⟩) S1.out).trans Q0.out; have yQ3 := (BBw2.cell (p := ⟨w.heap.size + 1, 1, none⟩) S1.out).trans Q1.out; have yQ4 := (BBw2.cell (p := ⟨w.heap.size + 1, 2, none⟩) S1.out).trans Q2.out; have nqa : w.heap.size ≠ w2.heap.size := Nat.ne_of_lt (Nat.lt_of_lt_of_le S0.out BBw2.size); have nqb : w.heap.size + 1 ≠ w2.heap.size := Nat.ne_of_lt (Nat.lt_of_lt_of_le S1.out BBw2.size); have nqc : w.heap.size ≠ w2.heap.size + 1 := Nat.ne_of_lt (Nat.lt_succ_of_lt (Nat.lt_of_lt_of_le S0.out BBw2.size)); have nqd : w.heap.size + 1 ≠ w2.heap.size + 1 := Nat.ne_of_lt (Nat.lt_succ_of_lt (Nat.lt_of_lt_of_le S1.out BBw2.size)); have nqe := nqa.symm; have nqf := nqb.symm; have nqg := nqc.symm; have nqh := nqd.symm; have hZ2 : w2.heap[w1.heap.size]? = some (.cells #[.int .i64 0, .slice none 0 0] 24) := (hk2 w1.heap.size (by simp; omega) (by have := (ho1.lt g1 rfl).2; omega)).trans ((Below.heap_alloc _ _ _ (by simp)).trans (heap_top w1 _)); obtain ⟨⟨z0, z1⟩, zf0, zf1⟩ := two_cells hZ2; have hZm := row_ne ho2 hZ2))
        all_goals (go_wp2_with fail; go_meet)
        all_goals
          first
            | exact ⟨w2.heap.size, g2, c2, rfl, heap_top w2 _, ho2.alloc _, BBw2.alloc BBw2.size _⟩
            | exact ⟨_, g2, c2, rfl, set2_same hZ2, own_set2 ho2 hZm, below_set2 BBw2 (by first | omega | exact BBw1.size | exact Nat.le_trans BBw1.size (Nat.le_add_right _ _)) _ _⟩
      case rest =>
        obtain ⟨cb, gg, cc, hs9, hcb, hown, bc⟩ := hcut
        subst hs9
        have hxf : x.f = (src x : Nat) := by unfold src; omega
        have hxt : x.t = (dst x : Nat) := by unfold dst; omega
        have hsx : src x < n := by unfold src; omega
        have hdx : dst x < n := by unfold dst; omega
        have g' : RG n (l ++ [x]) := by
          refine ⟨HG.out.n1, HG.out.nb, by simp; omega, fun y hy => ?_, fun y hy => ?_⟩
          · rw [List.mem_append] at hy
            rcases hy with hy | hy
            · exact HG.out.ends y hy
            · simp at hy; subst hy; omega
          · rw [List.mem_append] at hy
            rcases hy with hy | hy
            · exact HG.out.wt y hy
            · simp at hy; subst hy; exact HX.out
        have HG' := Lib.hid g'
        have hle : (l ++ [x]).length = l.length + 1 := by simp
        have b4 := b3.trans (bc.mono b3.size)
        have hg4 := (bc.block _ (lt_of_block hg3)).trans hg3
        have hq4 := (bc.block _ (lt_of_block hq3)).trans hq3
        have tf4 := tf3.same (bc.block _ tf3.lt)
        have HFR := Lib.hid (from_ok n (some ⟨gg, 0, none⟩) (l ++ [x]) cc s wc HG'.out hs (rg_near HG'.out hs) hown.arcs)
        rw [hle] at HFR
        obtain ⟨⟨k0, k1⟩, -⟩ := two_cells hcb
        clear g0 g1 q0 q1 q2 hg3 hq3 b3 tf3 bc hown g'
        go_wp2_with fail
        refine HFR.out.mono ?_
        rintro e w5 ⟨bg, rfl, G, tg, hisg, _, _, hb5⟩
        have HDG := Lib.hid hisg
        have b5 := b4.trans (hb5.mono b4.size)
        have hg5 := (hb5.block _ (lt_of_block hg4)).trans hg4
        have hq5 := (hb5.block _ (lt_of_block hq4)).trans hq4
        have tf5 := tf4.same (hb5.block _ tf4.lt)
        clear k0 k1 hg4 hq4 b4 tf4 hb5 HFR hisg
        obtain ⟨⟨g0, g1⟩, -⟩ := two_cells hg5
        obtain ⟨q0, q1, q2⟩ := three_cells hq5
        rw [hxt] at q1
        have HFR := Lib.hid (from_ok n a l cap (dst x) w5 HG.out hdx (rg_near HG.out hdx) (HR.out.on b5))
        go_wp2_with fail
        refine HFR.out.mono ?_
        rintro e w6 ⟨by', rfl, Y, ty, hisy, hbny, _, hb6⟩
        have HDY := Lib.hid hisy
        have HBY := Lib.hid hbny
        have b6 := b5.trans (hb6.mono b5.size)
        have hq6 := (hb6.block _ (lt_of_block hq5)).trans hq5
        have TF := Lib.hid (tf5.same (hb6.block _ tf5.lt))
        have TG := Lib.hid (tg.same (hb6.block _ tg.lt))
        have TY := Lib.hid ty
        have HEQ := Lib.hid (fun v => more_eq (fun y hy => (HW.out y hy).1) HX.out.1 HD.out HDY.out HDG.out v)
        clear g0 g1 q0 q1 q2 hg5 hq5 b5 tf5 tg ty hb6 HFR hisy hbny
        have HQ6 := Lib.hid hq6
        clear hq6
        go_wp2_with fail
        go_loopw [105] (fun i wr => ∃ k m : Nat, k ≤ n ∧ i = .int .i64 k ∧ wr = w6.drewN m) (fun i _ => n - (intOf i).toNat)
        case atStart => exact ⟨0, 0, Nat.zero_le _, rfl, rfl⟩
        case round =>
          obtain ⟨v, m, hv, rfl, rfl⟩ := hrel
          obtain ⟨q0, q1, q2⟩ := three_cells HQ6.out
          rw [hxf] at q0
          rw [hxt] at q1
          by_cases hvn : v < n
          · have hvn' : (v : Int) < n := by omega
            have hsx' : ((src x : Nat) : Int) < n := by omega
            have c0 := TF.out.cell hsx
            have c1 := TY.out.cell hvn
            have c2 := TG.out.cell hvn
            have c3 := TF.out.cell hvn
            have heq := HEQ.out v
            have hw0 := HX.out
            have hf0 := HD.out.lo (src x)
            have hy0 := HDY.out.lo v
            by_cases e1 : F (src x) < Inf
            · by_cases e2 : Y v < Inf
              · have hf1 := HBN.out (src x) e1
                have hy1 := HBY.out v e2
                have hov : over F Y x v = F (src x) + x.w + Y v := by unfold over; rw [if_pos ⟨e1, e2⟩]
                rw [hov] at heq
                have e1' : F (src x) < 18446744073709551615 := e1
                have e2' : Y v < 18446744073709551615 := e2
                obtain ⟨fu, HFU⟩ := named (F (src x))
                obtain ⟨yv, HYV⟩ := named (Y v)
                obtain ⟨gv, HGV⟩ := named (G v)
                obtain ⟨fv, HFV⟩ := named (F v)
                rw [HFU.out] at c0 heq hf0 hf1 e1'
                rw [HYV.out] at c1 heq hy0 hy1 e2'
                rw [HGV.out] at c2 heq
                rw [HFV.out] at c3 heq
                have hmin : (if fu + x.w + yv < fv then fu + x.w + yv else fv) = gv := heq.symm
                have hb1 : fu + x.w + yv < 18446744073709551616 := by omega
                have hwr0 : IntKind.u64.wrap x.w = x.w := wrap_u64 hw0.1 (by omega)
                have hwr1 : IntKind.u64.wrap (fu + x.w) = fu + x.w := wrap_u64 (by omega) (by omega)
                have hwr2 : IntKind.u64.wrap (fu + x.w + yv) = fu + x.w + yv := wrap_u64 (by omega) hb1
                clear heq hov e1 e2
                go_wp2_with fail
                go_quiet (fail)
                go_wp2_with fail
                go_quiet (fail)
                go_wp2_with fail
                exact ⟨⟨v + 1, _, by omega, by go_num, rfl⟩, by simp [intOf]; omega⟩
              · have hov : over F Y x v = 18446744073709551615 := by unfold over; rw [if_neg (fun h => e2 h.2)]; rfl
                rw [hov] at heq
                have e1' : F (src x) < 18446744073709551615 := e1
                have e2' : ¬ Y v < 18446744073709551615 := e2
                obtain ⟨fu, HFU⟩ := named (F (src x))
                obtain ⟨yv, HYV⟩ := named (Y v)
                obtain ⟨gv, HGV⟩ := named (G v)
                obtain ⟨fv, HFV⟩ := named (F v)
                rw [HFU.out] at c0 e1'
                rw [HYV.out] at c1 e2'
                rw [HGV.out] at c2 heq
                rw [HFV.out] at c3 heq
                have hmin : (if 18446744073709551615 < fv then 18446744073709551615 else fv) = gv := heq.symm
                clear heq hov e1 e2
                go_wp2_with fail
                go_quiet (fail)
                go_wp2_with fail
                exact ⟨⟨v + 1, _, by omega, by go_num, rfl⟩, by simp [intOf]; omega⟩
            · have hov : over F Y x v = 18446744073709551615 := by unfold over; rw [if_neg (fun h => e1 h.1)]; rfl
              rw [hov] at heq
              have e1' : ¬ F (src x) < 18446744073709551615 := e1
              obtain ⟨fu, HFU⟩ := named (F (src x))
              obtain ⟨yv, HYV⟩ := named (Y v)
              obtain ⟨gv, HGV⟩ := named (G v)
              obtain ⟨fv, HFV⟩ := named (F v)
              rw [HFU.out] at c0 e1'
              rw [HYV.out] at c1
              rw [HGV.out] at c2 heq
              rw [HFV.out] at c3 heq
              have hmin : (if 18446744073709551615 < fv then 18446744073709551615 else fv) = gv := heq.symm
              clear heq hov e1
              go_wp2_with fail
              go_quiet (fail)
              go_wp2_with fail
              exact ⟨⟨v + 1, _, by omega, by go_num, rfl⟩, by simp [intOf]; omega⟩
          · have hvn' : ¬ (v : Int) < n := by omega
            go_wp2_with fail
            go_ret
            exact ⟨rfl, b6.trans (below_drewN _ _ _)⟩
  · have hN : (nearE N l [s] == 0) = false := beq_eq_false_iff_ne.2 hE
    go_enter Try.func4, Try.ntmps4
    go_wp2_with fail
    refine HWK.out.mono ?_
    rintro e w1 ⟨rfl, hb1⟩
    have b1 : Below w.heap.size w w1 := hb0.trans (hb1.mono hb0.size)
    have hg1 := (hb1.block _ (lt_of_block hg)).trans hg
    obtain ⟨⟨g0, g1⟩, -⟩ := two_cells hg1
    have HFR := Lib.hid (from_no N a l cap s w1 hl hE (HR.out.on b1))
    generalize nearE N l [s] = E at *
    have hN2 : (E != 0) = true := by simp [hE]
    clear hg hb0 hb1 HWK
    go_wp2_with fail
    refine HFR.out.mono ?_
    rintro e w2 ⟨rfl, hb2⟩
    go_wp2_with fail
    go_ret
    exact ⟨rfl, b1.trans (hb2.mono b1.size)⟩
end Go.Proofs.Ytomlmphdnoempab
