/-
  FlowMore: the walk.
-/
import Derived.Test.YtcomkdjngchmkaaLent
import Derived.Test.YtcomkdjngchmkaaLawFewer
namespace Go.Proofs.Ytcomkdjngchmkaa
open Go.RowKit
/-- One capacity raised. -/
def raised (l : List A) (i : Nat) (m : Int) : List A := l.set i ⟨(l.getD i A.zero).f, (l.getD i A.zero).t, (l.getD i A.zero).w + m⟩
theorem raised_len (l : List A) (i : Nat) (m : Int) : (raised l i m).length = l.length := by simp [raised]
theorem raised_at (l : List A) {i : Nat} (m : Int) (hi : i < l.length) (j : Nat) : (raised l i m).getD j A.zero = if j = i then ⟨(l.getD i A.zero).f, (l.getD i A.zero).t, (l.getD i A.zero).w + m⟩ else l.getD j A.zero := by
  unfold raised
  by_cases e : j = i
  · subst e; rw [if_pos rfl]; simp [List.getD, hi]
  · rw [if_neg e]
    have e2 : i ≠ j := fun h => e h.symm
    simp only [List.getD]
    rw [List.getElem?_set_ne e2]
theorem raised_mem {l : List A} {i : Nat} {m : Int} {x : A} (h : x ∈ raised l i m) : x ∈ l ∨ x = ⟨(l.getD i A.zero).f, (l.getD i A.zero).t, (l.getD i A.zero).w + m⟩ := List.mem_or_eq_of_mem_set h
theorem all_ends {N : Int} {l l' : List A} (hlen : l'.length = l.length) (h : ∀ j, j < l.length → okA N (l'.getD j A.zero) = okA N (l.getD j A.zero)) : l'.all (okA N) = l.all (okA N) := by
  have key : ∀ k : List A, k.all (okA N) = true ↔ ∀ j, j < k.length → okA N (k.getD j A.zero) = true := fun k => by
    rw [List.all_eq_true]
    constructor
    · intro hx j hj
      exact hx _ (by simp [List.getD, List.getElem?_eq_getElem hj])
    · intro hx x hm
      obtain ⟨j, hj, rfl⟩ := List.mem_iff_getElem.1 hm
      have := hx j hj
      simpa [List.getD, List.getElem?_eq_getElem hj] using this
  rw [Bool.eq_iff_iff, key, key]
  constructor
  · intro hx j hj; rw [← h j hj]; exact hx j (by omega)
  · intro hx j hj; rw [h j (by omega)]; exact hx j (by omega)
theorem raised_fl (N : Int) (l : List A) {i : Nat} (m : Int) (hi : i < l.length) (s t : Int) : flE N (raised l i m) s t = flE N l s t := by
  have : chkE N (raised l i m) = chkE N l := by
    unfold chkE
    rw [raised_len, all_ends (N := N) (raised_len l i m) (fun j hj => by
      rw [raised_at l m hi j]
      by_cases e : j = i
      · subst e; rw [if_pos rfl]; rfl
      · rw [if_neg e])]
  unfold flE
  rw [this]
theorem raised_edge (l : List A) {i : Nat} (m : Int) (hi : i < l.length) {j : Nat} (hj : j < l.length) : ed (edl (raised l i m)) j = ⟨(ed (edl l) j).f, (ed (edl l) j).t, (ed (edl l) j).c + if j = i then m else 0⟩ := by
  rw [edl_at (by rw [raised_len]; exact hj), edl_at hj, raised_at l m hi j]
  by_cases e : j = i
  · subst e; simp
  · simp [e]
theorem raised_net (l : List A) {i : Nat} (m : Int) (hi : i < l.length) (fl : Nat → Int) (v : Nat) : ∀ k, k ≤ l.length → net (edl (raised l i m)) fl v k = net (edl l) fl v k
  | 0, _ => rfl
  | k + 1, h => by
    simp only [net]
    rw [raised_net l m hi fl v k (by omega), raised_edge l m hi (by omega)]
theorem raised_cap (l : List A) {i : Nat} {m : Int} (hm : 0 ≤ m) (hi : i < l.length) (R : Nat → Bool) : ∀ k, k ≤ l.length → capK (edl (raised l i m)) R k ≤ capK (edl l) R k + (if i < k then m else 0)
  | 0, _ => by simp [capK]
  | k + 1, h => by
    have h1 := raised_cap l hm hi R k (by omega)
    simp only [capK]
    rw [raised_edge l m hi (by omega)]
    simp only
    by_cases e : k = i
    · subst e
      rw [if_neg (Nat.lt_irrefl k)] at h1
      rw [if_pos rfl, if_pos (Nat.lt_succ_self k)]
      split <;> omega
    · rw [if_neg e]
      by_cases e2 : i < k
      · rw [if_pos e2] at h1
        rw [if_pos (show i < k + 1 by omega)]
        split <;> omega
      · rw [if_neg e2] at h1
        rw [if_neg (show ¬ i < k + 1 by omega)]
        split <;> omega
/-- The greatest value rises by no more than that, and never falls. -/
theorem raised_value {n : Nat} {l : List A} {i : Nat} {m : Int} (hm : 0 ≤ m) (hi : i < l.length) {s t : Nat} {f1 f2 : Nat → Int} {R1 R2 : Nat → Bool} (g : RN n (edl l)) (g2 : RN n (edl (raised l i m))) (hs : s < n) (h1 : Ended n (edl l) s t f1 R1) (h2 : Ended n (edl (raised l i m)) s t f2 R2) :
    net (edl l) f1 s (edl l).length ≤ net (edl (raised l i m)) f2 s (edl (raised l i m)).length ∧ net (edl (raised l i m)) f2 s (edl (raised l i m)).length ≤ net (edl l) f1 s (edl l).length + m := by
  have hl : (edl (raised l i m)).length = (edl l).length := by rw [edl_len, edl_len, raised_len]
  have hll := edl_len l
  constructor
  · have hF : Flow n (edl (raised l i m)) s t f1 := by
      refine ⟨fun j hj => h1.fw.lo j (by omega), fun j hj => ?_, fun v hv e1 e2 => ?_⟩
      · have hj2 : j < l.length := by omega
        rw [raised_edge l m hi hj2]
        have := h1.fw.hi j (by omega)
        simp only
        split <;> omega
      · rw [hl, raised_net l m hi f1 v _ (by omega)]
        exact h1.fw.mid v hv e1 e2
    have := hF.le_cut g2 hs h2.rs h2.rt
    rw [h2.value g2 hs]
    rw [hl, raised_net l m hi f1 s _ (by omega)] at this
    rw [hl]
    exact this
  · have h3 := h2.fw.le_cut g2 hs h1.rs h1.rt
    rw [h1.value g hs]
    rw [hl] at h3 ⊢
    have h4 := raised_cap l hm hi R1 (edl l).length (by omega)
    rw [if_pos (by omega)] at h4
    omega
theorem OwnA.set2 {w : World} {B g c : Nat} {l : List A} (h : OwnA w B (.some ⟨g, 0, none⟩) c l) (j : Nat) (v : Int) (hj : j < l.length) : OwnA (w.setCell ⟨g, j * 3 + 2, none⟩ (.int .u32 v)) B (.some ⟨g, 0, none⟩) c (l.set j ⟨(l.getD j A.zero).f, (l.getD j A.zero).t, v⟩) := by
  have := (World.ownsRow.stored h (j * 3 + 2) (.int .u32 v)).1
  rw [(cellsA_set l j v hj).2.2] at this
  unfold OwnA
  rw [List.length_set]; exact this
theorem pick_edge (e : Int) (m : Nat) (h0 : 0 < m) (hm : m ≤ 16384) : ∃ i : Nat, wrap64 ((IntKind.u64.wrap e).tmod m) = (i : Int) ∧ i < m := by
  have h1 : 0 ≤ IntKind.u64.wrap e := by simp [IntKind.wrap, IntKind.bits, IntKind.signed]; omega
  have h2 := Int.tmod_lt_of_pos (IntKind.u64.wrap e) (show (0 : Int) < m by omega)
  have h3 := Int.tmod_nonneg (m : Int) h1
  refine ⟨((IntKind.u64.wrap e).tmod m).toNat, ?_, by omega⟩
  unfold wrap64
  omega
theorem four_cells {w : World} {g : Nat} {a b c d : Value} {t : TypeId} (hh : w.heap[g]? = some (.cells #[a, b, c, d] t)) : w.cell? ⟨g, 0, none⟩ = some a ∧ w.cell? ⟨g, 1, none⟩ = some b ∧ w.cell? ⟨g, 2, none⟩ = some c ∧ w.cell? ⟨g, 3, none⟩ = some d := by
  simp [World.cell?, hh]
set_option maxHeartbeats 3200000 in
set_option maxRecDepth 100000 in
theorem law_more (N : Int) (a : Option Addr) (l : List A) (cap : Nat) (s t e0 mo : Int) (w : World) (sz : l.length * 24 ≤ 140737488351232) (hn0 : a = none → l = [] ∧ cap = 0) (hr : Arcs w a l) (hw : ∀ x, x ∈ l → 0 ≤ x.w ∧ x.w < 4294967296) (hmo : 0 ≤ mo ∧ mo < 4294967296) :
    Calls Try.prog 7 #[.agg #[.int .i64 N, .slice a l.length cap], .agg #[.int .i64 s, .int .i64 t, .int .i64 e0, .int .u32 mo]] w fun e w' => e = .returned (.bool true) ∧ Below w.heap.size w w' := by
  have hb0 : Below w.heap.size w ((w.alloc (.cells #[.int .i64 N, .slice a l.length cap] 24)).alloc (.cells #[.int .i64 s, .int .i64 t, .int .i64 e0, .int .u32 mo] 54)) := ((Below.refl _ _).alloc (Nat.le_refl _) _).alloc (by simp) _
  have hg : ((w.alloc (.cells #[.int .i64 N, .slice a l.length cap] 24)).alloc (.cells #[.int .i64 s, .int .i64 t, .int .i64 e0, .int .u32 mo] 54)).heap[w.heap.size]? = some (.cells #[.int .i64 N, .slice a l.length cap] 24) := (Below.heap_alloc _ _ _ (by simp)).trans (heap_top w _)
  have hy := heap_top (w.alloc (.cells #[.int .i64 N, .slice a l.length cap] 24)) (.cells #[.int .i64 s, .int .i64 t, .int .i64 e0, .int .u32 mo] 54)
  rw [show (w.alloc (.cells #[.int .i64 N, .slice a l.length cap] 24)).heap.size = w.heap.size + 1 by simp] at hy
  have hsz : ((w.alloc (.cells #[.int .i64 N, .slice a l.length cap] 24)).alloc (.cells #[.int .i64 s, .int .i64 t, .int .i64 e0, .int .u32 mo] 54)).heap.size = w.heap.size + 2 := by simp
  go_enter Try.func7, Try.ntmps7
  go_wp2_with fail
  generalize (w.alloc (.cells #[.int .i64 N, .slice a l.length cap] 24)).alloc (.cells #[.int .i64 s, .int .i64 t, .int .i64 e0, .int .u32 mo] 54) = W at *
  refine (works_any W).mono ?_
  rintro e w1 ⟨rfl, hb1⟩
  have hbw1 : Below w.heap.size w w1 := hb0.trans (hb1.mono (by omega))
  have hg1 := (hb1.block w.heap.size (by omega)).trans hg
  have hy1 := (hb1.block (w.heap.size + 1) (by omega)).trans hy
  obtain ⟨⟨g0, g1⟩, gf0, gf1⟩ := two_cells hg1
  obtain ⟨y0, y1, y2, y3⟩ := four_cells hy1
  clear hb0 hb1 hg hy hsz
  have hw1 := lt_of_block hy1
  by_cases hE : flE N l s t = 0
  · obtain ⟨n, u, v, hO⟩ := flE_ok hE hw
    obtain rfl := hO.hn
    obtain rfl := hO.hs
    obtain rfl := hO.ht
    have HO := Lib.hid hO
    have HE := Lib.hid hE
    have HM := Lib.hid (max_ok n a l cap w1 u v (hr.on hbw1) hE hO)
    clear hO hE
    go_wp2_with fail
    refine HM.out.mono ?_
    rintro e w2 ⟨fl, rk, bf, rfl, hFl, hRk, hrt, hT, hbf, hb2⟩
    have HE1 := Lib.hid (hRk.stop hFl (edl_len l) hrt)
    have hbw2 : Below w.heap.size w w2 := hbw1.trans (hb2.mono (by omega))
    have hg2 := (hb2.block w.heap.size (by omega)).trans hg1
    have hy2 := (hb2.block (w.heap.size + 1) (by omega)).trans hy1
    clear g0 g1 gf0 gf1 y0 y1 y2 y3
    obtain ⟨⟨g0, g1⟩, gf0, gf1⟩ := two_cells hg2
    obtain ⟨V, HV⟩ := named (net (edl l) fl u (edl l).length)
    rw [HV.out]
    have hw2 := lt_of_block hy2
    clear hFl hRk hrt hT hbf hb2 hg1 hy1
    go_wp2_with fail
    refine (large_any n a l.length cap w2).mono ?_
    rintro e w3 ⟨rfl, hb3⟩
    have hbw3 : Below w.heap.size w w3 := hbw2.trans (hb3.mono (by omega))
    have hg3 := (hb3.block w.heap.size (by omega)).trans hg2
    have hy3 := (hb3.block (w.heap.size + 1) (by omega)).trans hy2
    have hw3 := lt_of_block hy3
    clear g0 g1 gf0 gf1 hb3 hg2 hy2
    obtain ⟨⟨g0, g1⟩, gf0, gf1⟩ := two_cells hg3
    obtain ⟨y0, y1, y2, y3⟩ := four_cells hy3
    cases hlg : decide (400 < l.length ∧ 60 < (n : Int)) with
    | true =>
      clear hlg
      go_wp2_with fail
      go_ret
      exact ⟨rfl, hbw3⟩
    | false =>
      clear hlg
      by_cases hl0 : l.length = 0
      · have hl0' : ((l.length : Int) == 0) = true := by rw [hl0]; rfl
        clear hl0
        go_wp2_with fail
        go_ret
        exact ⟨rfl, hbw3⟩
      · have hl0' : ((l.length : Int) == 0) = false := by rw [beq_eq_false_iff_ne]; omega
        have hlen : l.length ≤ 16384 := by have := HO.out.g.lb; rwa [edl_len] at this
        have HLE := Lib.hid (lent_any n a l cap w3 sz hn0 (hr.on hbw3))
        obtain ⟨i, hi, him⟩ := pick_edge e0 l.length (by omega) hlen
        have HI := Lib.hid hi
        clear hi
        go_wp2_with fail
        rw [HI.out]
        refine HLE.out.mono ?_
        rintro e w4 ⟨a2, c2, rfl, hOw, hb4⟩
        obtain ⟨g, rfl, hgB, hgl⟩ := hOw.some (by omega)
        have hbw4 : Below w.heap.size w w4 := hbw3.trans (hb4.mono (by omega))
        have hy4 := (hb4.block (w.heap.size + 1) (by omega)).trans hy3
        have hw4 := lt_of_block hy4
        clear g0 g1 gf0 gf1 y0 y1 y2 y3 hb4
        have hOw5 := hOw.alloc (.cells #[.int .i64 n, .slice (some ⟨g, 0, none⟩) l.length c2] 24)
        have hbx := heap_top w4 (.cells #[.int .i64 n, .slice (some ⟨g, 0, none⟩) l.length c2] 24)
        have hy5 := (Below.heap_alloc w4 (.cells #[.int .i64 n, .slice (some ⟨g, 0, none⟩) l.length c2] 24) (w.heap.size + 1) (by omega)).trans hy4
        have hbw5 : Below w.heap.size w (w4.alloc (.cells #[.int .i64 n, .slice (some ⟨g, 0, none⟩) l.length c2] 24)) := hbw4.alloc (by omega) _
        obtain ⟨xf, xt, xc, hx, hxe, hfn, htn, hc0, hc1⟩ := HO.out.edge i him
        have hat := hOw5.at i him
        rw [hx] at hat
        obtain ⟨-, -, x2⟩ := hat
        simp only at x2
        have hrow := hOw5
        obtain ⟨bx0, bx1⟩ := (two_cells hbx).1
        obtain ⟨y0, y1, y2, y3⟩ := four_cells hy5
        obtain ⟨mm, HMM⟩ := named (min mo (4294967295 - xc))
        have hmm : 0 ≤ mm ∧ mm ≤ mo ∧ xc + mm ≤ 4294967295 := by
          have := HMM.out
          rw [← this]
          omega
        obtain ⟨hm0, hm1, hm2⟩ := hmm
        have him' : (i : Int) < l.length := by omega
        have hbxl := lt_of_block hbx
        have x2f : (w4.alloc (.cells #[.int .i64 n, .slice (some ⟨g, 0, none⟩) l.length c2] 24)).frozen? ⟨g, i * 3 + 2, none⟩ = false := by
          rcases hrow.2 with ⟨h1, _⟩ | ⟨g', c', cur, h1, h2, h3, _⟩
          · cases h1
          · injection h1 with ha hb hc
            injection ha with ha
            injection ha with ha
            subst ha
            simp [World.frozen?, h3]
        go_wp2_with fail
        generalize w4.alloc (.cells #[.int .i64 n, .slice (some ⟨g, 0, none⟩) l.length c2] 24) = W5 at *
        go_region
        rw [HMM.out]
        go_wp2_with fail
        have hOw6 := hOw5.set2 i (xc + mm) him
        have hra : l.set i ⟨(l.getD i A.zero).f, (l.getD i A.zero).t, xc + mm⟩ = raised l i mm := by
          unfold raised
          rw [show (l.getD i A.zero).w = xc by rw [hx]]
        rw [hra] at hOw6
        have hA6 : Arcs (W5.setCell ⟨g, i * 3 + 2, none⟩ (.int .u32 (xc + mm))).drew (some ⟨g, 0, none⟩) (raised l i mm) := hOw6.arcs
        have hbw6 : Below w.heap.size w (W5.setCell ⟨g, i * 3 + 2, none⟩ (.int .u32 (xc + mm))).drew := (hbw5.setCell (by show w.heap.size ≤ g; omega) _).drew
        have hE2 : flE n (raised l i mm) u v = 0 := by rw [raised_fl n l mm him]; exact HE.out
        obtain ⟨n', u', v', hO2⟩ := flE_ok hE2 (fun x hx' => by
          rcases raised_mem hx' with h | rfl
          · exact hw x h
          · have h1 : (l.getD i A.zero).w = xc := by rw [hx]
            simp only
            omega)
        obtain rfl : n' = n := by have := hO2.hn; omega
        obtain rfl : u' = u := by have := hO2.hs; omega
        obtain rfl : v' = v := by have := hO2.ht; omega
        have HM2 := Lib.hid (max_ok n' (some ⟨g, 0, none⟩) (raised l i mm) c2 _ u' v' hA6 hE2 hO2)
        have HO2 := Lib.hid hO2
        have HBW6 := Lib.hid hbw6
        rw [raised_len] at HM2
        have hV0 := capK_nonneg HO.out.g (side rk) (edl l).length (Nat.le_refl _)
        rw [← HE1.out.value HO.out.g HO.out.un, HV.out, edl_len] at hV0
        obtain ⟨hV1, hV2⟩ := hV0
        clear hOw hOw5 hOw6 hbx hrow x2 x2f bx0 bx1 y0 y1 y2 y3 hA6 hbw6 hE2 hO2 hra hy3 hy4 hy5 hg3
        refine HM2.out.mono ?_
        rintro e w6 ⟨fl2, rk2, bf2, rfl, hFl, hRk, hrt, hT, hbf, hb6⟩
        have hend := hRk.stop hFl ((edl_len _).trans (raised_len l i mm)) hrt
        obtain ⟨v1, v2⟩ := raised_value hm0 him HO.out.g HO2.out.g HO.out.un HE1.out hend
        rw [HV.out] at v1 v2
        have hbw7 : Below w.heap.size w w6 := HBW6.out.trans (hb6.mono (by have := HBW6.out.size; exact this))
        generalize net (edl (raised l i mm)) fl2 u' (edl (raised l i mm)).length = V2 at *
        have e1 : (V2 - V) ≤ mm := by omega
        clear hFl hRk hrt hT hbf hb6 hend
        go_wp2_with fail
        go_ret
        exact ⟨rfl, hbw7⟩
  · have HM := Lib.hid (max_bad N a l cap w1 s t (by omega) (hr.on hbw1) hE)
    generalize flE N l s t = E at *
    have e1 : (E != 0) = true := by simpa using hE
    have e2 : (E == 0) = false := by rw [beq_eq_false_iff_ne]; exact hE
    clear hE
    go_wp2_with fail
    refine HM.out.mono ?_
    rintro e w2 ⟨rfl, hb2⟩
    have hbw2 : Below w.heap.size w w2 := hbw1.trans (hb2.mono (by omega))
    have hg2 := (hb2.block w.heap.size (by omega)).trans hg1
    have hw2 := lt_of_block hg2
    clear g0 g1 gf0 gf1 y0 y1 y2 y3
    obtain ⟨⟨g0, g1⟩, gf0, gf1⟩ := two_cells hg2
    go_wp2_with fail
    refine (large_any N a l.length cap w2).mono ?_
    rintro e w3 ⟨rfl, hb3⟩
    have hbw3 : Below w.heap.size w w3 := hbw2.trans (hb3.mono (by omega))
    cases hlg : decide (400 < l.length ∧ 60 < N) with
    | true =>
      clear hlg
      go_wp2_with fail
      go_ret
      exact ⟨rfl, hbw3⟩
    | false =>
      clear hlg
      go_wp2_with fail
      go_ret
      exact ⟨rfl, hbw3⟩
end Go.Proofs.Ytcomkdjngchmkaa
