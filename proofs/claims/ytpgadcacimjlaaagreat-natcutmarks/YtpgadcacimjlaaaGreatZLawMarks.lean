/-
  NatcutMarks holds.
-/
import Derived.Test.YtpgadcacimjlaaaGreatZMk
import Derived.Test.YtpgadcacimjlaaaGreatZN
import Derived.Test.YtpgadcacimjlaaaGreatZR
namespace Go.Proofs.YtpgadcacimjlaaaGreat
open Go.RowKit
theorem below_tr {p : Nat} {w w1 w2 : World} (h : Below p w w1) (hp : w.heap.size = p) (h2 : Below w1.heap.size w1 w2) : Below p w w2 := h.trans (h2.mono (hp ▸ h.size))
theorem samePr_any (a a' : Option Addr) (cap cap' : Nat) (xs : List Pr) (w : World) (hml : xs.length ≤ 9223372036854775807) (hr : Prs w a xs) (hr' : Prs w a' xs) :
    Calls Tryz.prog 15 #[.slice a xs.length cap, .slice a' xs.length cap'] w fun e w' => e = .returned (.bool true) ∧ Below w.heap.size w w' := by
  have h := samePairs_any a a' cap cap' (xs.map toI) w (by rw [List.length_map]; exact hml) (prs_I hr) (prs_I hr')
  rw [List.length_map] at h
  exact h
theorem ownP_len {w : World} {B : Nat} {a : Option Addr} {c : Nat} {d : List Pr} (h : OwnP w B a c d) : d.length ≤ 9223372036854775807 := Nat.le_trans (own_cap h).1 (own_cap h).2
theorem own_small {w : World} {base n : Nat} {v : Value} {xs : List Value} (h : w.ownsRow base 3 1 v n xs) : n ≤ 9223372036854775807 := by
  rcases h.2 with ⟨_, rfl⟩ | ⟨g, c, cur, _, _, _, h4, h5, _⟩
  · omega
  · unfold maxLen at h5; omega
theorem MarksIs.same {n : Nat} {l : List A} {cs : List Nat} {m : Nat} {x y : List Pr} (hC : chkE n l = 0) (hc : ∀ c, c ∈ cs → c < n) (hm : 1 ≤ m) (h1 : MarksIs n l cs m x) (h2 : MarksIs n l cs m y) : x = y := by
  obtain ⟨_, hn, hl, _⟩ := chk_zero hC
  obtain ⟨f, hf, rfl⟩ := h1
  obtain ⟨g, hg, rfl⟩ := h2
  have e : ∀ c, c ∈ cs → f c = g c := fun c hm' => CutIs.one (by omega) hl (hc c hm') hm (hf c hm') (hg c hm')
  congr 1
  funext p
  rw [Bool.eq_iff_iff, decide_eq_true_eq, decide_eq_true_eq]
  exact ⟨fun ⟨c, h1, h2⟩ => ⟨c, h1, e c h1 ▸ h2⟩, fun ⟨c, h1, h2⟩ => ⟨c, h1, (e c h1).symm ▸ h2⟩⟩
set_option maxRecDepth 100000 in
set_option maxHeartbeats 6400000 in
theorem nmarks_any (N m : Int) (a : Option Addr) (l : List A) (cap : Nat) (b : Option Addr) (xs : List Int) (bc : Nat) (w : World) (hlen : l.length * 24 ≤ 140737488351232) (hna : a = none → l = [] ∧ cap = 0) (hr : Arcs w a l)
    (hmlen : xs.length * 8 ≤ 140737488351232) (hnb : b = none → xs = [] ∧ bc = 0) (hm : Ints w b xs) :
    Calls Tryz.prog 5 #[.agg #[.int .i64 N, .slice a l.length cap], .slice b xs.length bc, .int .i64 m] w fun e w' => e = .returned (.bool true) ∧ Below w.heap.size w w' := by
  have hl : l.length ≤ 9223372036854775807 := by omega
  have hml : xs.length ≤ 9223372036854775807 := by omega
  have hb0 : Below w.heap.size w (w.alloc (.cells #[.int .i64 N, .slice a l.length cap] 24)) := (Below.refl _ _).alloc (Nat.le_refl _) _
  have hg := heap_top w (.cells #[.int .i64 N, .slice a l.length cap] 24)
  have HAR := Lib.hid hr
  have HNA := Lib.hid hna
  have HPM := Lib.hid hm
  have HNB := Lib.hid hnb
  clear hr hna hm hnb
  generalize hp : w.heap.size = p at *
  go_enter Tryz.func5, Tryz.ntmps5
  go_wp2_with fail
  generalize hW : w.alloc (.cells #[.int .i64 N, .slice a l.length cap] 24) = W at *
  refine (refused_any N a l cap W hl).mono ?_
  rintro e w1 ⟨rfl, hb1⟩
  have hg1 := (hb1.block _ (lt_of_block hg)).trans hg
  have HB1 := Lib.hid (below_tr hb0 hp hb1)
  obtain ⟨⟨g0, g1⟩, _⟩ := two_cells hg1
  clear hb1 hg hb0 hW
  obtain ⟨rf, HRF⟩ := named (refB N l)
  rw [HRF.out]
  cases rf
  · by_cases h5 : 12 < xs.length ∧ xs.length ≤ 16384
    · have h5a : (12 : Int) < xs.length := by omega
      have h5b : (xs.length : Int) ≤ 16384 := by omega
      clear h5
      go_wp2_with fail
      refine (works_any w1).mono ?_
      rintro e w2 ⟨rfl, hb2⟩
      have HB2 := Lib.hid (below_tr HB1.out hp hb2)
      clear hb2
      go_wp2_with fail
      go_ret
      exact ⟨rfl, HB2.out⟩
    · have HLE := Lib.hid (lend_any N a l cap w1 hlen HNA.out (HAR.out.on (by rw [hp]; exact HB1.out)))
      have hdis : ¬ (12 : Int) < xs.length ∨ ((12 : Int) < xs.length ∧ ¬ (xs.length : Int) ≤ 16384) := by omega
      clear h5
      rcases hdis with h6a | ⟨h6a, h6b⟩
      all_goals
        go_wp2_with fail
        refine HLE.out.mono ?_
        rintro e w2 ⟨g, cg, rfl, hcg1, hcg2, hown, hb2⟩
        have HST := Lib.hid (still_own hown)
        have HB2 := Lib.hid (below_tr HB1.out hp hb2)
        have hg2 := (hb2.block _ (lt_of_block hg1)).trans hg1
        clear hown g0 g1 hb2 HLE
        have HLI := Lib.hid (lendI_any b xs bc w2 hmlen HNB.out (HPM.out.on (by rw [hp]; exact HB2.out)))
        go_wp2_with fail
        refine HLI.out.mono ?_
        rintro e w3 ⟨gi, ci, rfl, hci1, hci2, hown3, hb3⟩
        have HSI := Lib.hid (stillI_own hown3)
        have HS3 := Lib.hid (HST.out.on hb3)
        have HB3 := Lib.hid (below_tr HB2.out hp hb3)
        have hg3 := (hb3.block _ (lt_of_block hg2)).trans hg2
        clear hown3 hb3 HLI
        have hb34 : Below w3.heap.size w3 (w3.alloc (.cells #[.int .i64 N, .slice (some ⟨g, 0, none⟩) l.length cg] 24)) := (Below.refl _ _).alloc (Nat.le_refl _) _
        have hi4 := heap_top w3 (.cells #[.int .i64 N, .slice (some ⟨g, 0, none⟩) l.length cg] 24)
        have HBW4 := Lib.hid (below_tr HB3.out hp hb34)
        have HS4 := Lib.hid (HS3.out.on hb34)
        have HI4 := Lib.hid (HSI.out.on hb34)
        have hg4 := (hb34.block _ (lt_of_block hg3)).trans hg3
        obtain ⟨⟨y0, y1⟩, _⟩ := two_cells hi4
        clear hb34
        go_wp2_with fail
        generalize hw4 : w3.alloc (.cells #[.int .i64 N, .slice (some ⟨g, 0, none⟩) l.length cg] 24) = w4 at *
        generalize hri : w3.heap.size = r at *
        clear hw4
        refine (marks_any N m (some ⟨g, 0, none⟩) l cg (some ⟨gi, 0, none⟩) xs ci w4 hl hml HS4.out.arcs HI4.out.ints).mono ?_
        rintro e w5 ⟨v5, c5, ps, rfl, hown5, h51, h52, hb5⟩
        have HL5 := Lib.hid hb5
        have HBW5 := Lib.hid (below_tr HBW4.out hp hb5)
        have hg5 := (hb5.block _ (lt_of_block hg4)).trans hg4
        have hi5 := (hb5.block _ (lt_of_block hi4)).trans hi4
        obtain ⟨⟨z0, z1⟩, _⟩ := two_cells hg5
        have HO5 := Lib.hid hown5
        obtain ⟨E, HE⟩ := named (maE N m l xs)
        rw [HE.out] at h51 h52 ⊢
        clear hown5 hb5 y0 y1
        go_wp2_with fail
        refine (rmarks_any N m a l cap b xs bc w5 hl hml (HAR.out.on (by rw [hp]; exact HBW5.out)) (HPM.out.on (by rw [hp]; exact HBW5.out))).mono ?_
        rintro e w6 ⟨v6, c6, ps', rfl, hown6, h61, h62, hb6⟩
        rw [HE.out] at h61 h62 ⊢
        obtain rfl : ps' = ps := by
          by_cases hE : E = 0
          · have hM := HE.out.trans hE
            unfold maE at hM
            by_cases hC : chkE N l = 0
            · rw [if_neg (by rw [hC]; omega)] at hM
              obtain ⟨_, hm1, hm2, hall⟩ := ceE_zero hM
              have hN0 := (chk_zero hC).1
              have hNn : ((N.toNat : Nat) : Int) = N := by omega
              refine MarksIs.same (n := N.toNat) (by rw [hNn]; exact hC) (fun c hc => ?_) (by omega) (h61.out hE) (h51.out hE)
              obtain ⟨d, hd, rfl⟩ := List.mem_map.1 hc
              have := hall d hd
              omega
            · rw [if_pos hC] at hM
              exact absurd hM hC
          · rw [h62.out hE, h52.out hE]
        have HL6 : Hid (Below w4.heap.size w4 w6) := HL5.out.trans (hb6.mono HL5.out.size)
        have HBW6 := Lib.hid (below_tr HBW5.out hp hb6)
        have hi6 := (hb6.block _ (lt_of_block hi5)).trans hi5
        have hg6 := (hb6.block _ (lt_of_block hg5)).trans hg5
        obtain ⟨⟨y0, y1⟩, _⟩ := two_cells hi6
        have HP5 := Lib.hid ((OwnP.prs HO5.out).on hb6)
        have HP6 := Lib.hid (OwnP.prs hown6)
        have hpl : ps'.length ≤ 9223372036854775807 := ownP_len hown6
        clear hown6 hb6 z0 z1 HO5 h51 h52 h61 h62
        obtain ⟨L, HL⟩ := named (frL N l (ps'.map toI))
        obtain ⟨F, HF⟩ := named (frE N l (ps'.map toI))
        have HFR := Lib.hid (frag_any N (some ⟨g, 0, none⟩) l cg v6 (ps'.map toI) c6 w6 hl (by rw [List.length_map]; exact hpl) (HS4.out.on HL6.out).arcs (prs_I HP6.out))
        rw [HL.out, HF.out, List.length_map] at HFR
        go_wp2_with fail
        refine HFR.out.mono ?_
        rintro e w7 ⟨a7, c7, rfl, hown7, hb7⟩
        have HL7 : Hid (Below w4.heap.size w4 w7) := HL6.out.trans (hb7.mono HL6.out.size)
        have HBW7 := Lib.hid (below_tr HBW6.out hp hb7)
        have hg7 := (hb7.block _ (lt_of_block hg6)).trans hg6
        have hi7 := (hb7.block _ (lt_of_block hi6)).trans hi6
        obtain ⟨⟨z0, z1⟩, _⟩ := two_cells hg7
        have HP7 := Lib.hid (HP5.out.on hb7)
        have HQ7 := Lib.hid (HP6.out.on hb7)
        have HO7 := Lib.hid hown7
        clear hb7 y0 y1 HFR hown7 HP5 HP6
        have HRC := Lib.hid (rfrag_any N a l cap v6 (ps'.map toI) c6 w7 hl (by rw [List.length_map]; exact hpl) (HAR.out.on (by rw [hp]; exact HBW7.out)) (prs_I HQ7.out))
        rw [HL.out, HF.out, List.length_map] at HRC
        go_wp2_with fail
        refine HRC.out.mono ?_
        rintro e w8 ⟨a8, c8, rfl, hown8, hb8⟩
        have HL8 : Hid (Below w4.heap.size w4 w8) := HL7.out.trans (hb8.mono HL7.out.size)
        have HBW8 := Lib.hid (below_tr HBW7.out hp hb8)
        have hg8 := (hb8.block _ (lt_of_block hg7)).trans hg7
        have hi8 := (hb8.block _ (lt_of_block hi7)).trans hi7
        have HP8 := Lib.hid (HP7.out.on hb8)
        have HQ8 := Lib.hid (HQ7.out.on hb8)
        have HI8 := Lib.hid ((own_intsI HO7.out).on hb8)
        have HJ8 := Lib.hid (own_intsI hown8)
        have hLl : L.length ≤ 9223372036854775807 := own_small hown8
        have hEE : (E == E) = true := by simp
        have hFF : (F == F) = true := by simp
        clear hb8 z0 z1 HRC HP7 HQ7 hown8 HO7
        go_wp2_with fail
        refine (samePr_any v5 v6 c5 c6 ps' w8 hpl HP8.out HQ8.out).mono ?_
        rintro e w9 ⟨rfl, hb9⟩
        have HL9 : Hid (Below w4.heap.size w4 w9) := HL8.out.trans (hb9.mono HL8.out.size)
        have HBW9 := Lib.hid (below_tr HBW8.out hp hb9)
        have hg9 := (hb9.block _ (lt_of_block hg8)).trans hg8
        have hi9 := (hb9.block _ (lt_of_block hi8)).trans hi8
        have HI9 := Lib.hid (HI8.out.on hb9)
        have HJ9 := Lib.hid (HJ8.out.on hb9)
        clear hb9
        go_wp2_with fail
        refine (sameInts_any a7 a8 c7 c8 L w9 hLl HI9.out HJ9.out).mono ?_
        rintro e wA ⟨rfl, hbA⟩
        have HLA : Hid (Below w4.heap.size w4 wA) := HL9.out.trans (hbA.mono HL9.out.size)
        have HBWA := Lib.hid (below_tr HBW9.out hp hbA)
        have hgA := (hbA.block _ (lt_of_block hg9)).trans hg9
        have hiA := (hbA.block _ (lt_of_block hi9)).trans hi9
        obtain ⟨⟨z0, z1⟩, _⟩ := two_cells hgA
        obtain ⟨⟨y0, y1⟩, _⟩ := two_cells hiA
        clear hbA
        go_wp2_with fail
        refine (kept_any N g cg a l cap wA hlen hcg1 hcg2 (HS4.out.on HLA.out) (HAR.out.on (by rw [hp]; exact HBWA.out))).mono ?_
        rintro e w10 ⟨rfl, hb10⟩
        have HL10 : Hid (Below w4.heap.size w4 w10) := HLA.out.trans (hb10.mono HLA.out.size)
        have HBW10 := Lib.hid (below_tr HBWA.out hp hb10)
        clear hb10
        go_wp2_with fail
        refine (keptI_any gi ci b xs bc w10 hmlen hci1 (HI4.out.on HL10.out) (HPM.out.on (by rw [hp]; exact HBW10.out))).mono ?_
        rintro e w11 ⟨rfl, hb11⟩
        have HBW11 := Lib.hid (below_tr HBW10.out hp hb11)
        clear hb11
        go_wp2_with fail
        refine (works_any w11).mono ?_
        rintro e w12 ⟨rfl, hb12⟩
        have HBW12 := Lib.hid (below_tr HBW11.out hp hb12)
        clear hb12
        go_wp2_with fail
        go_ret
        exact ⟨rfl, HBW12.out⟩
  · go_wp2_with fail
    refine (works_any w1).mono ?_
    rintro e w2 ⟨rfl, hb2⟩
    have HB2 := Lib.hid (below_tr HB1.out hp hb2)
    clear hb2
    go_wp2_with fail
    go_ret
    exact ⟨rfl, HB2.out⟩
end Go.Proofs.YtpgadcacimjlaaaGreat
