/-
  NatcutFragments holds.
-/
import Derived.Test.YtpgadcacimjlaaaGreatZN
import Derived.Test.YtpgadcacimjlaaaGreatZM
import Derived.Laws.AppendOwnNone
namespace Go.Proofs.YtpgadcacimjlaaaGreat
open Go.RowKit
theorem below_tr {p : Nat} {w w1 w2 : World} (h : Below p w w1) (hp : w.heap.size = p) (h2 : Below w1.heap.size w1 w2) : Below p w w2 := h.trans (h2.mono (hp ▸ h.size))
theorem own_small {w : World} {base n : Nat} {v : Value} {xs : List Value} (h : w.ownsRow base 3 1 v n xs) : n ≤ 9223372036854775807 := by
  rcases h.2 with ⟨_, rfl⟩ | ⟨g, c, cur, _, _, _, h4, h5, _⟩
  · omega
  · unfold maxLen at h5; omega
/-- The cells of pairs as they are given. -/
def cellsM : List Pi2 → List Value
  | [] => []
  | p :: r => .int .i64 p.a :: .int .i64 p.b :: cellsM r
theorem cellsM_len : ∀ l : List Pi2, (cellsM l).length = l.length * 2
  | [] => rfl
  | p :: r => by simp [cellsM, cellsM_len r]; omega
theorem cellsM_at : ∀ (l : List Pi2) (j : Nat), j < l.length → (cellsM l)[j * 2]? = some (.int .i64 (l.getD j Pi2.zero).a) ∧ (cellsM l)[j * 2 + 1]? = some (.int .i64 (l.getD j Pi2.zero).b)
  | [], j, h => absurd h (by simp)
  | p :: r, 0, _ => ⟨rfl, rfl⟩
  | p :: r, j + 1, h => by
    have ih := cellsM_at r j (by simpa using h)
    rw [show (j + 1) * 2 = j * 2 + 2 by omega]
    exact ih
theorem cellsM_one : ∀ (l : List Pi2), ∀ u ∈ cellsM l, u.oneCell' = true
  | [], u, h => by simp [cellsM] at h
  | p :: r, u, h => by
    simp only [cellsM, List.mem_cons] at h
    rcases h with rfl | rfl | h
    · rfl
    · rfl
    · exact cellsM_one r u h
theorem own_prI {w : World} {B : Nat} {a : Option Addr} {c : Nat} {l : List Pi2} (h : w.ownsRow B 52 2 (.slice a l.length c) l.length (cellsM l)) : PrI w a l := by
  by_cases h0 : l = []
  · exact .inl h0
  · rcases h.2 with ⟨_, h'⟩ | ⟨g, c', cur, h', hb, hg, hnc, hm, _⟩
    · exact absurd (List.eq_nil_of_length_eq_zero h') h0
    · injection h' with e1 e2 e3
      subst e1
      refine .inr ⟨g, 0, rfl, lt_of_block hg, fun j hj => ⟨?_, ?_⟩⟩
      · rw [Nat.zero_add, World.ownsRow.cellAt h (j * 2) (by omega), (cellsM_at l j hj).1]
      · rw [Nat.zero_add, World.ownsRow.cellAt h (j * 2 + 1) (by omega), (cellsM_at l j hj).2]
theorem prI_news {w : World} {ad : Addr} {l : List Pi2} (h : PrI w (some ad) l) (o : Obj) : ∀ j u, (cellsM l)[j]? = some u → (w.alloc o).cell? (ad.add j) = some u := by
  intro j u hu
  rcases h with rfl | ⟨b, o', hab, hl, hc⟩
  · simp [cellsM] at hu
  · cases hab
    have hj : j < l.length * 2 := by
      rcases Nat.lt_or_ge j (l.length * 2) with h' | h'
      · exact h'
      · rw [List.getElem?_eq_none (by rw [cellsM_len]; exact h')] at hu; cases hu
    have hq : j / 2 < l.length := by omega
    obtain ⟨c0, c1⟩ := hc (j / 2) hq
    obtain ⟨m0, m1⟩ := cellsM_at l (j / 2) hq
    rw [Go.WideShapes.add_plain]
    rcases Nat.mod_two_eq_zero_or_one j with e | e
    · have ej : j / 2 * 2 = j := by omega
      rw [ej] at m0 c0
      exact ((((Below.refl w.heap.size w).alloc (Nat.le_refl _) o).cell (p := ⟨b, o' + j, none⟩) hl).trans c0).trans (m0.symm.trans hu)
    · have ej : j / 2 * 2 + 1 = j := by omega
      have ek : o' + j / 2 * 2 + 1 = o' + j := by omega
      rw [ej] at m1
      rw [ek] at c1
      exact ((((Below.refl w.heap.size w).alloc (Nat.le_refl _) o).cell (p := ⟨b, o' + j, none⟩) hl).trans c1).trans (m1.symm.trans hu)
set_option maxRecDepth 100000 in
set_option maxHeartbeats 6400000 in
theorem fragments_any (N : Int) (a : Option Addr) (l : List A) (cap : Nat) (b : Option Addr) (ms : List Pi2) (bc : Nat) (w : World) (hlen : l.length * 24 ≤ 140737488351232) (hna : a = none → l = [] ∧ cap = 0) (hr : Arcs w a l)
    (hmlen : ms.length * 16 ≤ 140737488351232) (hnb : b = none → ms = [] ∧ bc = 0) (hm : PrI w b ms) :
    Calls Tryz.prog 6 #[.agg #[.int .i64 N, .slice a l.length cap], .slice b ms.length bc] w fun e w' => e = .returned (.bool true) ∧ Below w.heap.size w w' := by
  have hl : l.length ≤ 9223372036854775807 := by omega
  have hml : ms.length ≤ 9223372036854775807 := by omega
  have hb0 : Below w.heap.size w (w.alloc (.cells #[.int .i64 N, .slice a l.length cap] 24)) := (Below.refl _ _).alloc (Nat.le_refl _) _
  have hg := heap_top w (.cells #[.int .i64 N, .slice a l.length cap] 24)
  have HAR := Lib.hid hr
  have HNA := Lib.hid hna
  have HPM := Lib.hid hm
  have HNB := Lib.hid hnb
  obtain ⟨i0, hi, hz0, hz1, hz2⟩ := info_parts info41
  clear hr hna hm hnb
  generalize hp : w.heap.size = p at *
  go_enter Tryz.func6, Tryz.ntmps6
  go_wp2_with fail
  generalize hW : w.alloc (.cells #[.int .i64 N, .slice a l.length cap] 24) = W at *
  refine (refused_any N a l cap W hl).mono ?_
  rintro e w1 ⟨rfl, hb1⟩
  have hg1 := (hb1.block _ (lt_of_block hg)).trans hg
  have HB1 := Lib.hid (below_tr hb0 hp hb1)
  obtain ⟨⟨g0, g1⟩, _⟩ := two_cells hg1
  clear hb1 hg hb0 hW
  obtain ⟨rf, HRF⟩ := named (refB N l)
  rw [HRF.out]
  cases rf
  · by_cases h5 : 500 < ms.length ∧ ms.length ≤ 16384
    · have h5a : (500 : Int) < ms.length := by omega
      have h5b : (ms.length : Int) ≤ 16384 := by omega
      clear h5
      go_wp2_with fail
      refine (works_any w1).mono ?_
      rintro e w2 ⟨rfl, hb2⟩
      have HB2 := Lib.hid (below_tr HB1.out hp hb2)
      clear hb2
      go_wp2_with fail
      go_ret
      exact ⟨rfl, HB2.out⟩
    · have HA1 : Hid (Arcs w1 a l) := HAR.out.on (by rw [hp]; exact HB1.out)
      have HLE := Lib.hid (lend_any N a l cap w1 hlen HNA.out HA1.out)
      have hdis : ¬ (500 : Int) < ms.length ∨ ((500 : Int) < ms.length ∧ ¬ (ms.length : Int) ≤ 16384) := by omega
      clear h5
      rcases hdis with h6a | ⟨h6a, h6b⟩
      all_goals
        go_wp2_with fail
        refine HLE.out.mono ?_
        rintro e w2 ⟨g, cg, rfl, hcg1, hcg2, hown, hb2⟩
        have HST := Lib.hid (still_own hown)
        have HB2 := Lib.hid (below_tr HB1.out hp hb2)
        have hg2 := (hb2.block _ (lt_of_block hg1)).trans hg1
        have hpq : p < w2.heap.size := lt_of_block hg2
        have HM2 : Hid (PrI w2 b ms) := HPM.out.on (by rw [hp]; exact HB2.out)
        have hlit := World.ownsRow_lit (base := w2.heap.size) (e := 52) (size := 2) w2 #[] 0 (Nat.le_refl _) (by decide) rfl
        clear hown g0 g1 hb2
        generalize hq : w2.heap.size = q at *
        have HB23 : Hid (Below q w2 (w2.alloc (.cells #[] 52))) := (Below.refl _ _).alloc (by omega) _
        have HOW0 : Hid ((w2.alloc (.cells #[] 52)).ownsRow q 52 2 (.slice (some ⟨q, 0, none⟩) 0 0) 0 []) := hlit
        have HSZ : Hid (q ≤ (w2.alloc (.cells #[] 52)).heap.size) := hq ▸ HB23.out.size
        have HCL := Lib.hid (cellsM_len ms)
        clear hlit
        rcases b with _ | ad
        · obtain ⟨c3, hc3⟩ : ∃ c3 : Nat, c3 = 0 := ⟨0, rfl⟩
          have HMS := Lib.hid (HNB.out rfl)
          have HC3 := Lib.hid hc3
          clear hc3
          have HOW1 : Hid ((w2.alloc (.cells #[] 52)).ownsRow q 52 2 (.slice (some ⟨q, 0, none⟩) ms.length c3) ms.length (cellsM ms)) := by
            show World.ownsRow _ _ _ _ _ _ _
            rw [HMS.out.1, HC3.out]
            exact HOW0.out
          go_wp2_with (at_builtin; refine wpList_append_own_none rfl (.tmp 26) (.tmp 27) 30 rfl q 52 i0 2 Tryz.underlying30 hi (.slice (some ⟨q, 0, none⟩) ms.length c3) ms.length (cellsM ms) (by rw [HMS.out.1, HC3.out]; rfl) HOW1.out (by rw [HMS.out.1, HMS.out.2]; rfl) ?_)
          have hrq : (w2.alloc (.cells #[] 52)).heap.size = q + 1 := by simp [hq]
          generalize hw3 : w2.alloc (.cells #[] 52) = w3 at *
          clear hw3
          have HPX := Lib.hid (own_prI HOW1.out)
          have HB3 : Hid (Below q w2 w3) := HB23
          have HP3 : Hid (PrI w3 (some ⟨q, 0, none⟩) ms) := HPX
          generalize (⟨q, 0, none⟩ : Addr) = ad3 at *
          have hz3 : q ≤ w3.heap.size := hq ▸ HB3.out.size
          have hb34 : Below w3.heap.size w3 (w3.alloc (.cells #[.int .i64 N, .slice (some ⟨g, 0, none⟩) l.length cg] 24)) := (Below.refl _ _).alloc (Nat.le_refl _) _
          have hi4 := heap_top w3 (.cells #[.int .i64 N, .slice (some ⟨g, 0, none⟩) l.length cg] 24)
          have HB4 : Hid (Below q w2 (w3.alloc (.cells #[.int .i64 N, .slice (some ⟨g, 0, none⟩) l.length cg] 24))) := HB3.out.trans (hb34.mono hz3)
          have HP4 := Lib.hid (HP3.out.on hb34)
          clear hb34
          generalize hw4 : w3.alloc (.cells #[.int .i64 N, .slice (some ⟨g, 0, none⟩) l.length cg] 24) = w4 at *
          generalize hri : w3.heap.size = r at *
          subst hrq
          clear hw4
          have HS4 := Lib.hid (HST.out.on (hq ▸ HB4.out))
          have HBW4 : Hid (Below p w w4) := HB2.out.trans (HB4.out.mono (by omega))
          have hg4 := (HB4.out.block p (by omega)).trans hg2
          obtain ⟨⟨z0, z1⟩, _⟩ := two_cells hg4
          obtain ⟨⟨y0, y1⟩, _⟩ := two_cells hi4
          obtain ⟨L, HL⟩ := named (frL N l ms)
          obtain ⟨E, HE⟩ := named (frE N l ms)
          have HFR := Lib.hid (frag_any N (some ⟨g, 0, none⟩) l cg (some ad3) ms c3 w4 hl hml HS4.out.arcs HP4.out)
          rw [HL.out, HE.out] at HFR
          refine HFR.out.mono ?_
          rintro e w5 ⟨a5, c5, rfl, hown5, hb5⟩
          have hg5 := (hb5.block _ (lt_of_block hg4)).trans hg4
          have hi5 := (hb5.block _ (lt_of_block hi4)).trans hi4
          obtain ⟨⟨p0, p1⟩, _⟩ := two_cells hg5
          have HO5 := Lib.hid hown5
          have HL5 := Lib.hid hb5
          have HBW5 := Lib.hid (below_tr HBW4.out hp hb5)
          clear hown5 hb5 z0 z1 y0 y1 HFR
          go_wp2_with fail
          have HRF2 := Lib.hid (rfrag_any N a l cap none ms bc w5 hl hml (HAR.out.on (by rw [hp]; exact HBW5.out)) (HPM.out.on (by rw [hp]; exact HBW5.out)))
          rw [HL.out, HE.out] at HRF2
          refine HRF2.out.mono ?_
          rintro e w6 ⟨a6, c6, rfl, hown6, hb6⟩
          have HO6 := Lib.hid (own_on HO5.out hb6)
          have HI6 := Lib.hid (own_intsI hown6)
          have HL6 : Hid (Below w4.heap.size w4 w6) := HL5.out.trans (hb6.mono HL5.out.size)
          have HBW6 := Lib.hid (below_tr HBW5.out hp hb6)
          have hEE : (E != E) = false := by simp
          clear hown6 hb6 p0 p1 HRF2
          go_wp2_with fail
          refine (sameInts_any a5 a6 c5 c6 L w6 (own_small HO6.out) (own_intsI HO6.out) HI6.out).mono ?_
          rintro e w7 ⟨rfl, hb7⟩
          have HO7 := Lib.hid (own_on HO6.out hb7)
          have HL7 : Hid (Below w4.heap.size w4 w7) := HL6.out.trans (hb7.mono HL6.out.size)
          clear hb7
          go_wp2_with fail
          refine (spoilInts_gen a5 L.length c5 w4.heap.size (-7) _ w7 HO7.out).mono ?_
          rintro e w8 ⟨rfl, hb8, _⟩
          have HL8 : Hid (Below w4.heap.size w4 w8) := HL7.out.trans hb8
          have HBW8 : Hid (Below p w w8) := HBW4.out.trans (HL8.out.mono (hp ▸ HBW4.out.size))
          have hg8 := (HL8.out.block _ (lt_of_block hg4)).trans hg4
          have hi8 := (HL8.out.block _ (lt_of_block hi4)).trans hi4
          obtain ⟨⟨z0, z1⟩, _⟩ := two_cells hg8
          obtain ⟨⟨y0, y1⟩, _⟩ := two_cells hi8
          clear hb8
          go_wp2_with fail
          refine (kept_any N g cg a l cap w8 hlen hcg1 hcg2 (HS4.out.on HL8.out) (HAR.out.on (by rw [hp]; exact HBW8.out))).mono ?_
          rintro e w9 ⟨rfl, hb9⟩
          have HL9 : Hid (Below w4.heap.size w4 w9) := HL8.out.trans (hb9.mono HL8.out.size)
          have HBW9 := Lib.hid (below_tr HBW8.out hp hb9)
          clear hb9
          go_wp2_with fail
          refine (samePairs_any (some ad3) none c3 bc ms w9 hml (HP4.out.on HL9.out) (HPM.out.on (by rw [hp]; exact HBW9.out))).mono ?_
          rintro e w10 ⟨rfl, hb10⟩
          have HBW10 := Lib.hid (below_tr HBW9.out hp hb10)
          clear hb10
          go_wp2_with fail
          refine (works_any w10).mono ?_
          rintro e w11 ⟨rfl, hb11⟩
          have HBW11 := Lib.hid (below_tr HBW10.out hp hb11)
          clear hb11
          go_wp2_with fail
          go_ret
          exact ⟨rfl, HBW11.out⟩
        · have HNW := Lib.hid (prI_news HM2.out (.cells #[] 52))
          go_wp2_with (at_builtin; refine wpList_append_own _ rfl (.tmp 26) (.tmp 27) 30 rfl q 52 i0 _ 2 16 Tryz.underlying30 hi hz0 hz1 hz2 rfl (by decide) (.slice (some ⟨q, 0, none⟩) 0 0) 0 [] rfl HOW0.out ad ms.length bc (cellsM ms) rfl HCL.out HNW.out (cellsM_one _) (by unfold maxLen; omega) (by omega) HSZ.out ?_; intro v3 w3 hown3 hgrow3 hnil3; obtain ⟨g3, c3, hv3, _, _, _, _⟩ := own_shape hown3 (fun e => by have := hnil3.1 e; simp at this); rw [hv3] at hown3 ⊢; clear hnil3 hv3; simp only [Nat.zero_add, List.nil_append] at hown3 ⊢; have HPX := Lib.hid (own_prI hown3); have HB3 : Hid (Below q w2 w3) := HB23.out.grown hgrow3 HSZ.out (by intro k hk; cases hk; exact Nat.le_refl _); clear hown3 hgrow3)
          have HP3 : Hid (PrI w3 (some ⟨g3, 0, none⟩) ms) := HPX
          generalize (⟨g3, 0, none⟩ : Addr) = ad3 at *
          have hz3 : q ≤ w3.heap.size := hq ▸ HB3.out.size
          have hb34 : Below w3.heap.size w3 (w3.alloc (.cells #[.int .i64 N, .slice (some ⟨g, 0, none⟩) l.length cg] 24)) := (Below.refl _ _).alloc (Nat.le_refl _) _
          have hi4 := heap_top w3 (.cells #[.int .i64 N, .slice (some ⟨g, 0, none⟩) l.length cg] 24)
          have HB4 : Hid (Below q w2 (w3.alloc (.cells #[.int .i64 N, .slice (some ⟨g, 0, none⟩) l.length cg] 24))) := HB3.out.trans (hb34.mono hz3)
          have HP4 := Lib.hid (HP3.out.on hb34)
          clear hb34
          generalize hw4 : w3.alloc (.cells #[.int .i64 N, .slice (some ⟨g, 0, none⟩) l.length cg] 24) = w4 at *
          generalize hri : w3.heap.size = r at *
          clear hw4
          have HS4 := Lib.hid (HST.out.on (hq ▸ HB4.out))
          have HBW4 : Hid (Below p w w4) := HB2.out.trans (HB4.out.mono (by omega))
          have hg4 := (HB4.out.block p (by omega)).trans hg2
          obtain ⟨⟨z0, z1⟩, _⟩ := two_cells hg4
          obtain ⟨⟨y0, y1⟩, _⟩ := two_cells hi4
          obtain ⟨L, HL⟩ := named (frL N l ms)
          obtain ⟨E, HE⟩ := named (frE N l ms)
          have HFR := Lib.hid (frag_any N (some ⟨g, 0, none⟩) l cg (some ad3) ms c3 w4 hl hml HS4.out.arcs HP4.out)
          rw [HL.out, HE.out] at HFR
          refine HFR.out.mono ?_
          rintro e w5 ⟨a5, c5, rfl, hown5, hb5⟩
          have hg5 := (hb5.block _ (lt_of_block hg4)).trans hg4
          have hi5 := (hb5.block _ (lt_of_block hi4)).trans hi4
          obtain ⟨⟨p0, p1⟩, _⟩ := two_cells hg5
          have HO5 := Lib.hid hown5
          have HL5 := Lib.hid hb5
          have HBW5 := Lib.hid (below_tr HBW4.out hp hb5)
          clear hown5 hb5 z0 z1 y0 y1 HFR
          go_wp2_with fail
          have HRF2 := Lib.hid (rfrag_any N a l cap (some ad) ms bc w5 hl hml (HAR.out.on (by rw [hp]; exact HBW5.out)) (HPM.out.on (by rw [hp]; exact HBW5.out)))
          rw [HL.out, HE.out] at HRF2
          refine HRF2.out.mono ?_
          rintro e w6 ⟨a6, c6, rfl, hown6, hb6⟩
          have HO6 := Lib.hid (own_on HO5.out hb6)
          have HI6 := Lib.hid (own_intsI hown6)
          have HL6 : Hid (Below w4.heap.size w4 w6) := HL5.out.trans (hb6.mono HL5.out.size)
          have HBW6 := Lib.hid (below_tr HBW5.out hp hb6)
          have hEE : (E != E) = false := by simp
          clear hown6 hb6 p0 p1 HRF2
          go_wp2_with fail
          refine (sameInts_any a5 a6 c5 c6 L w6 (own_small HO6.out) (own_intsI HO6.out) HI6.out).mono ?_
          rintro e w7 ⟨rfl, hb7⟩
          have HO7 := Lib.hid (own_on HO6.out hb7)
          have HL7 : Hid (Below w4.heap.size w4 w7) := HL6.out.trans (hb7.mono HL6.out.size)
          clear hb7
          go_wp2_with fail
          refine (spoilInts_gen a5 L.length c5 w4.heap.size (-7) _ w7 HO7.out).mono ?_
          rintro e w8 ⟨rfl, hb8, _⟩
          have HL8 : Hid (Below w4.heap.size w4 w8) := HL7.out.trans hb8
          have HBW8 : Hid (Below p w w8) := HBW4.out.trans (HL8.out.mono (hp ▸ HBW4.out.size))
          have hg8 := (HL8.out.block _ (lt_of_block hg4)).trans hg4
          have hi8 := (HL8.out.block _ (lt_of_block hi4)).trans hi4
          obtain ⟨⟨z0, z1⟩, _⟩ := two_cells hg8
          obtain ⟨⟨y0, y1⟩, _⟩ := two_cells hi8
          clear hb8
          go_wp2_with fail
          refine (kept_any N g cg a l cap w8 hlen hcg1 hcg2 (HS4.out.on HL8.out) (HAR.out.on (by rw [hp]; exact HBW8.out))).mono ?_
          rintro e w9 ⟨rfl, hb9⟩
          have HL9 : Hid (Below w4.heap.size w4 w9) := HL8.out.trans (hb9.mono HL8.out.size)
          have HBW9 := Lib.hid (below_tr HBW8.out hp hb9)
          clear hb9
          go_wp2_with fail
          refine (samePairs_any (some ad3) (some ad) c3 bc ms w9 hml (HP4.out.on HL9.out) (HPM.out.on (by rw [hp]; exact HBW9.out))).mono ?_
          rintro e w10 ⟨rfl, hb10⟩
          have HBW10 := Lib.hid (below_tr HBW9.out hp hb10)
          clear hb10
          go_wp2_with fail
          refine (works_any w10).mono ?_
          rintro e w11 ⟨rfl, hb11⟩
          have HBW11 := Lib.hid (below_tr HBW10.out hp hb11)
          clear hb11
          go_wp2_with fail
          go_ret
          exact ⟨rfl, HBW11.out⟩
  · go_wp2_with fail
    refine (works_any w1).mono ?_
    rintro e w2 ⟨rfl, hb2⟩
    have HB2 := Lib.hid (below_tr HB1.out hp hb2)
    clear hb2
    go_wp2_with fail
    go_ret
    exact ⟨rfl, HB2.out⟩
end Go.Proofs.YtpgadcacimjlaaaGreat
