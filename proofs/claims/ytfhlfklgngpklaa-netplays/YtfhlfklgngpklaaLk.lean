/-
  Contracts of (*Net).isNode, isLink, letter.
-/
import Derived.Test.YtfhlfklgngpklaaMem
namespace Go.Proofs.Ytfhlfklgngpklaa
open Go.RowKit Go.Maps
theorem cells4 {w : World} {n : Nat} {t : TypeId} {a b c d : Value} (h : w.heap[n]? = some (.cells #[a, b, c, d] t (0, 0))) :
    (w.cell? ⟨n, 0, none⟩ = some a ∧ w.cell? ⟨n, 1, none⟩ = some b ∧ w.cell? ⟨n, 2, none⟩ = some c ∧ w.cell? ⟨n, 3, none⟩ = some d) ∧
      w.frozen? ⟨n, 0, none⟩ = false ∧ w.frozen? ⟨n, 1, none⟩ = false ∧ w.frozen? ⟨n, 2, none⟩ = false ∧ w.frozen? ⟨n, 3, none⟩ = false := by
  simp [World.cell?, World.frozen?, h]
def ndB (N : Nat) (a : Int) : Bool := decide (0 ≤ a) && decide (a < N)
def lkB (N : Nat) (p : Pr) : Bool := decide (In N p)
theorem in_iff (N : Nat) (p : Pr) : In N p ↔ ((0 ≤ p.a ∧ p.a < N) ∧ 0 ≤ p.b ∧ p.b < N) ∧ p.a ≠ p.b :=
  ⟨fun ⟨a, b, c, d, e⟩ => ⟨⟨⟨a, b⟩, c, d⟩, e⟩, fun ⟨⟨⟨a, b⟩, c, d⟩, e⟩ => ⟨a, b, c, d, e⟩⟩
theorem lkB_of (N : Nat) (p : Pr) : lkB N p = (ndB N p.a && ndB N p.b && decide (p.a ≠ p.b)) := by
  unfold lkB ndB
  rw [Bool.eq_iff_iff]
  simp only [decide_eq_true_eq, Bool.and_eq_true]
  exact in_iff N p
theorem lkB_in {N : Nat} {p : Pr} (h : In N p) : lkB N p = true := by unfold lkB; simp [h]
theorem lkB_not {N : Nat} {p : Pr} (h : ¬ In N p) : lkB N p = false := by unfold lkB; simp [h]
section
variable {w : World} {n : Nat} {db N : Nat}
theorem isNode_any (c0 : w.cell? ⟨n, 0, none⟩ = some (.slice (some ⟨db, 0, none⟩) N N)) (a : Int) :
    Calls Try.prog 51 #[.pointer (some ⟨n, 0, none⟩), .int .i64 a] w fun e w' => e = .returned (.bool (ndB N a)) ∧ w' = w := by
  by_cases h1 : 0 ≤ a
  · by_cases h2 : a < N
    · rw [show ndB N a = true by simp [ndB, h1, h2]]
      go_enter Try.func51, Try.ntmps51
      go_wp2_with fail
      go_ret
      exact ⟨rfl, rfl⟩
    · rw [show ndB N a = false by simp [ndB, h2]]
      go_enter Try.func51, Try.ntmps51
      go_wp2_with fail
      go_ret
      exact ⟨rfl, rfl⟩
  · rw [show ndB N a = false by simp [ndB, h1]]
    go_enter Try.func51, Try.ntmps51
    go_wp2_with fail
    go_ret
    exact ⟨rfl, rfl⟩
set_option maxHeartbeats 800000 in
theorem isLink_any (c0 : w.cell? ⟨n, 0, none⟩ = some (.slice (some ⟨db, 0, none⟩) N N)) (hn : n < w.heap.size) (p : Pr) :
    Calls Try.prog 38 #[.pointer (some ⟨n, 0, none⟩), .agg #[.int .i64 p.a, .int .i64 p.b]] w fun e w' => e = .returned (.bool (lkB N p)) ∧ Below w.heap.size w w' := by
  obtain ⟨a, b⟩ := p
  have hb1 : Below w.heap.size w (w.alloc (.cells #[.int .i64 a, .int .i64 b] 64)) := (Below.refl _ _).alloc (Nat.le_refl _) _
  have c0' : (w.alloc (.cells #[.int .i64 a, .int .i64 b] 64)).cell? ⟨n, 0, none⟩ = some (.slice (some ⟨db, 0, none⟩) N N) := (hb1.cell (p := ⟨n, 0, none⟩) hn).trans c0
  have HA := Lib.hid (isNode_any c0' a)
  have HB := Lib.hid (isNode_any c0' b)
  have HL := Lib.hid (lkB_of N ⟨a, b⟩)
  have HB1 := Lib.hid hb1
  clear hb1 c0 c0'
  cases ha : ndB N a
  · rw [ha] at HA
    have HX : lkB N ⟨a, b⟩ = false := by rw [HL.out]; simp [ha]
    rw [HX]
    clear HB HX
    go_enter Try.func38, Try.ntmps38
    go_wp2_with fail
    refine HA.out.mono ?_
    rintro e w2 ⟨rfl, rfl⟩
    go_wp2_with fail
    go_ret
    exact ⟨rfl, HB1.out⟩
  · rw [ha] at HA
    cases hb : ndB N b
    · rw [hb] at HB
      have HX : lkB N ⟨a, b⟩ = false := by rw [HL.out]; simp [hb]
      rw [HX]
      clear HX
      go_enter Try.func38, Try.ntmps38
      go_wp2_with fail
      refine HA.out.mono ?_
      rintro e w2 ⟨rfl, rfl⟩
      go_wp2_with fail
      refine HB.out.mono ?_
      rintro e w2 ⟨rfl, rfl⟩
      go_wp2_with fail
      go_ret
      exact ⟨rfl, HB1.out⟩
    · rw [hb] at HB
      by_cases hab : a = b
      · have HX : lkB N ⟨a, b⟩ = false := by rw [HL.out]; simp [hab]
        rw [HX]
        clear HX HL
        subst hab
        go_enter Try.func38, Try.ntmps38
        go_wp2_with fail
        refine HA.out.mono ?_
        rintro e w2 ⟨rfl, rfl⟩
        go_wp2_with fail
        refine HB.out.mono ?_
        rintro e w2 ⟨rfl, rfl⟩
        go_wp2_with fail
        go_ret
        exact ⟨rfl, HB1.out⟩
      · have HX : lkB N ⟨a, b⟩ = true := by rw [HL.out]; simp [ha, hb, hab]
        rw [HX]
        clear HX HL
        go_enter Try.func38, Try.ntmps38
        go_wp2_with fail
        refine HA.out.mono ?_
        rintro e w2 ⟨rfl, rfl⟩
        go_wp2_with fail
        refine HB.out.mono ?_
        rintro e w2 ⟨rfl, rfl⟩
        go_wp2_with fail
        go_ret
        exact ⟨by show Ending.returned (Value.bool (a != b)) = _; simp [hab], HB1.out⟩
end
/-- What letter answers. -/
def letE (S : NS) (p : Pr) (k : Int) : Int := if lkB S.N p = true then (if 0 ≤ k ∧ k < (S.bg p).length then 0 else 5) else 190
def letS (S : NS) (p : Pr) (k : Int) : ByteArray := if lkB S.N p = true then (if 0 ≤ k ∧ k < (S.bg p).length then (S.bg p).getD k.toNat ⟨#[]⟩ else ⟨#[]⟩) else ⟨#[]⟩
section
variable {w : World} {n : Nat} {P : Nat → Prop} {S : NS} {db mb : Nat} {tv : Value} {sv : Pr → Value} {D : DataW Unit} {k : Nat}
theorem row_form {l : List ByteArray} {v : Value} (h : w.ownsRow 0 9 1 v l.length (strs l)) : (v = .slice none 0 0 ∧ l = []) ∨ ∃ g c, v = .slice (some ⟨g, 0, none⟩) l.length c ∧ l.length ≤ c ∧ c ≤ maxLen ∧ g < w.heap.size ∧ ∀ i, i < l.length → w.cell? ⟨g, i, none⟩ = some (.string (l.getD i ⟨#[]⟩)) := by
  rcases h.2 with ⟨e1, e2⟩ | ⟨g, cap, cur, e1, e2, e3, e4, e5, e6, e7⟩
  · exact Or.inl ⟨e1, List.eq_nil_of_length_eq_zero e2⟩
  · refine Or.inr ⟨g, cap, e1, e4, e5, lt_of_block e3, fun i hi => ?_⟩
    rw [cell_of_row w g i cur 9 (0, 0) e3]
    have e : cur.toList[i]? = (cur.toList.take (l.length * 1))[i]? := by rw [List.getElem?_take, if_pos (by omega)]
    rw [← Array.getElem?_toList, e, e7]
    unfold strs
    rw [List.getElem?_map, List.getElem?_eq_getElem hi]
    simp [List.getD, List.getElem?_eq_getElem hi]
theorem boxed (w : World) (a b : Value) : (w.alloc (.cells #[a, b] 64)).cell? ⟨w.heap.size, 0, none⟩ = some a ∧ (w.alloc (.cells #[a, b] 64)).cell? ⟨w.heap.size, 1, none⟩ = some b := by
  constructor
  · rw [cell_of_row _ _ 0 _ _ _ (heap_top w _)]; rfl
  · rw [cell_of_row _ _ 1 _ _ _ (heap_top w _)]; rfl
set_option maxRecDepth 100000 in
set_option maxHeartbeats 800000 in
theorem letter_any (h : NTx w n P S db mb tv sv D k) (p : Pr) (i : Int) :
    Calls Try.prog 41 #[.pointer (some ⟨n, 0, none⟩), .agg #[.int .i64 p.a, .int .i64 p.b], .int .i64 i] w fun e w' => e = .returned (.tuple #[.string (letS S p i), .int .i64 (letE S p i)]) ∧ Below w.heap.size w w' := by
  have hb1 : Below w.heap.size w (w.alloc (.cells #[.int .i64 p.a, .int .i64 p.b] 64)) := (Below.refl _ _).alloc (Nat.le_refl _) _
  have h1 := h.on_ hb1
  have HK := Lib.hid (isLink_any (cells4 h1.hn).1.1 (lt_of_block h1.hn) p)
  obtain ⟨a, b⟩ := p
  have HB1 := Lib.hid hb1
  clear hb1
  by_cases hI : In S.N ⟨a, b⟩
  · have hl := lkB_in hI
    rw [hl] at HK
    have hb := boxed w (.int .i64 a) (.int .i64 b)
    have hsz : w.heap.size < (w.alloc (.cells #[.int .i64 a, .int .i64 b] 64)).heap.size := by simp
    have H1 := Lib.hid h1
    have HY := Lib.hid hb
    have HI := Lib.hid hI
    have HS := Lib.hid hsz
    have HF := Lib.hid (row_form (h1.row _ hI))
    generalize hls : S.bg ⟨a, b⟩ = l at *
    have HLS := Lib.hid hls
    clear hb hsz h1 h hI hls
    rcases HF.out with ⟨hv, hl0⟩ | ⟨g, c, hv, hc1, hc2, hg, hcs⟩
    · have e1 : letE S ⟨a, b⟩ i = 5 := by unfold letE; rw [if_pos hl, HLS.out, hl0, if_neg (by simp only [List.length_nil]; omega)]
      have e2 : letS S ⟨a, b⟩ i = ⟨#[]⟩ := by unfold letS; rw [if_pos hl, HLS.out, hl0, if_neg (by simp only [List.length_nil]; omega)]
      rw [e1, e2]
      have HV := Lib.hid hv
      clear hl e1 e2 hv hl0 HF
      by_cases hi : i < 0
      · go_enter Try.func41, Try.ntmps41
        go_wp2_with fail
        refine HK.out.mono ?_
        rintro e w1 ⟨rfl, hb⟩
        have k1 := H1.out.on_ hb
        obtain ⟨c0, c1, c2, c3⟩ := (cells4 k1.hn).1
        have y0 := (hb.cell (p := ⟨w.heap.size, 0, none⟩) HS.out).trans HY.out.1
        have y1 := (hb.cell (p := ⟨w.heap.size, 1, none⟩) HS.out).trans HY.out.2
        have q := (k1.keep (w' := w1.drew) (Nat.le_refl _) (fun _ _ _ => rfl)).look HI.out
        rw [HV.out] at q
        have HB := Lib.hid hb
        clear hb k1
        go_wp2_with fail
        go_region
        go_wp2_with fail
        go_ret2
        exact ⟨rfl, (bthen HB1.out HB.out (by have := HS.out; omega)).drew⟩
      · go_enter Try.func41, Try.ntmps41
        go_wp2_with fail
        refine HK.out.mono ?_
        rintro e w1 ⟨rfl, hb⟩
        have k1 := H1.out.on_ hb
        obtain ⟨c0, c1, c2, c3⟩ := (cells4 k1.hn).1
        have y0 := (hb.cell (p := ⟨w.heap.size, 0, none⟩) HS.out).trans HY.out.1
        have y1 := (hb.cell (p := ⟨w.heap.size, 1, none⟩) HS.out).trans HY.out.2
        have q := (k1.keep (w' := w1.drew) (Nat.le_refl _) (fun _ _ _ => rfl)).look HI.out
        rw [HV.out] at q
        have HB := Lib.hid hb
        have hi' : (0 : Int) ≤ i := by omega
        clear hb k1
        go_wp2_with fail
        go_region
        go_wp2_with fail
        go_ret2
        exact ⟨rfl, (bthen HB1.out HB.out (by have := HS.out; omega)).drew⟩
    · have HV := Lib.hid hv
      have HC := Lib.hid hcs
      have HG := Lib.hid hg
      clear hcs hv HF hg
      by_cases hi : i < 0
      · have e1 : letE S ⟨a, b⟩ i = 5 := by unfold letE; rw [if_pos hl, if_neg (by omega)]
        have e2 : letS S ⟨a, b⟩ i = ⟨#[]⟩ := by unfold letS; rw [if_pos hl, if_neg (by omega)]
        rw [e1, e2]
        clear hl e1 e2
        go_enter Try.func41, Try.ntmps41
        go_wp2_with fail
        refine HK.out.mono ?_
        rintro e w1 ⟨rfl, hb⟩
        have k1 := H1.out.on_ hb
        obtain ⟨c0, c1, c2, c3⟩ := (cells4 k1.hn).1
        have y0 := (hb.cell (p := ⟨w.heap.size, 0, none⟩) HS.out).trans HY.out.1
        have y1 := (hb.cell (p := ⟨w.heap.size, 1, none⟩) HS.out).trans HY.out.2
        have q := (k1.keep (w' := w1.drew) (Nat.le_refl _) (fun _ _ _ => rfl)).look HI.out
        rw [HV.out] at q
        have HB := Lib.hid hb
        clear hb k1
        go_wp2_with fail
        go_region
        go_wp2_with fail
        go_ret2
        exact ⟨rfl, (bthen HB1.out HB.out (by have := HS.out; omega)).drew⟩
      · by_cases hi2 : i < l.length
        · obtain ⟨j, rfl⟩ := Int.eq_ofNat_of_zero_le (show 0 ≤ i by omega)
          have hj : j < l.length := by omega
          have e1 : letE S ⟨a, b⟩ j = 0 := by unfold letE; rw [if_pos hl, HLS.out, if_pos (by omega)]
          have e2 : letS S ⟨a, b⟩ j = l.getD j ⟨#[]⟩ := by unfold letS; rw [if_pos hl, HLS.out, if_pos (by omega)]; rfl
          rw [e1, e2]
          have hz := HC.out j hj
          generalize l.getD j ⟨#[]⟩ = s at *
          have HZ := Lib.hid hz
          clear hl e1 e2 hz
          go_enter Try.func41, Try.ntmps41
          go_wp2_with fail
          refine HK.out.mono ?_
          rintro e w1 ⟨rfl, hb⟩
          have k1 := H1.out.on_ hb
          obtain ⟨c0, c1, c2, c3⟩ := (cells4 k1.hn).1
          have y0 := (hb.cell (p := ⟨w.heap.size, 0, none⟩) HS.out).trans HY.out.1
          have y1 := (hb.cell (p := ⟨w.heap.size, 1, none⟩) HS.out).trans HY.out.2
          have q := (k1.keep (w' := w1.drew) (Nat.le_refl _) (fun _ _ _ => rfl)).look HI.out
          rw [HV.out] at q
          have z : w1.drew.cell? ⟨g, j, none⟩ = some (.string s) := (hb.cell (p := ⟨g, j, none⟩) HG.out).trans HZ.out
          have HB := Lib.hid hb
          have hi' : ¬ (j : Int) < 0 := by omega
          clear hb k1
          go_wp2_with fail
          go_region
          go_wp2_with fail
          go_ret2
          exact ⟨rfl, (bthen HB1.out HB.out (by have := HS.out; omega)).drew⟩
        · have e1 : letE S ⟨a, b⟩ i = 5 := by unfold letE; rw [if_pos hl, HLS.out, if_neg (by omega)]
          have e2 : letS S ⟨a, b⟩ i = ⟨#[]⟩ := by unfold letS; rw [if_pos hl, HLS.out, if_neg (by omega)]
          rw [e1, e2]
          clear hl e1 e2
          go_enter Try.func41, Try.ntmps41
          go_wp2_with fail
          refine HK.out.mono ?_
          rintro e w1 ⟨rfl, hb⟩
          have k1 := H1.out.on_ hb
          obtain ⟨c0, c1, c2, c3⟩ := (cells4 k1.hn).1
          have y0 := (hb.cell (p := ⟨w.heap.size, 0, none⟩) HS.out).trans HY.out.1
          have y1 := (hb.cell (p := ⟨w.heap.size, 1, none⟩) HS.out).trans HY.out.2
          have q := (k1.keep (w' := w1.drew) (Nat.le_refl _) (fun _ _ _ => rfl)).look HI.out
          rw [HV.out] at q
          have HB := Lib.hid hb
          have hi' : (0 : Int) ≤ i := by omega
          have hi3 : (l.length : Int) ≤ i := by omega
          clear hb k1
          go_wp2_with fail
          go_region
          go_wp2_with fail
          go_ret2
          exact ⟨rfl, (bthen HB1.out HB.out (by have := HS.out; omega)).drew⟩
  · have hl := lkB_not hI
    have e1 : letE S ⟨a, b⟩ i = 190 := by unfold letE; rw [hl]; rfl
    have e2 : letS S ⟨a, b⟩ i = ⟨#[]⟩ := by unfold letS; rw [hl]; rfl
    rw [e1, e2]
    rw [hl] at HK
    have hsz : w.heap.size < (w.alloc (.cells #[.int .i64 a, .int .i64 b] 64)).heap.size := by simp
    have HS := Lib.hid hsz
    have HY := Lib.hid (boxed w (.int .i64 a) (.int .i64 b))
    clear h1 h hI hl e1 e2 hsz
    go_enter Try.func41, Try.ntmps41
    go_wp2_with fail
    refine HK.out.mono ?_
    rintro e w1 ⟨rfl, hb⟩
    have HB := Lib.hid hb
    go_wp2_with fail
    go_ret2
    exact ⟨rfl, bthen HB1.out HB.out (by have := HS.out; omega)⟩
end
end Go.Proofs.Ytfhlfklgngpklaa
