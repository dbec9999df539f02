/-
  NatcutCuts holds.
-/
import Derived.Test.YtpgadcacimjlaaaGreatZV
import Derived.Test.YtpgadcacimjlaaaGreatZN
import Derived.Test.YtpgadcacimjlaaaGreatZM
namespace Go.Proofs.YtpgadcacimjlaaaGreat
open Go.RowKit
theorem below_tr {p : Nat} {w w1 w2 : World} (h : Below p w w1) (hp : w.heap.size = p) (h2 : Below w1.heap.size w1 w2) : Below p w w2 := h.trans (h2.mono (hp ▸ h.size))
theorem samePr_any (a a' : Option Addr) (cap cap' : Nat) (xs : List Pr) (w : World) (hml : xs.length ≤ 9223372036854775807) (hr : Prs w a xs) (hr' : Prs w a' xs) :
    Calls Tryz.prog 15 #[.slice a xs.length cap, .slice a' xs.length cap'] w fun e w' => e = .returned (.bool true) ∧ Below w.heap.size w w' := by
  have h := samePairs_any a a' cap cap' (xs.map toI) w (by rw [List.length_map]; exact hml) (prs_I hr) (prs_I hr')
  rw [List.length_map] at h
  exact h
theorem ownP_len {w : World} {B : Nat} {a : Option Addr} {c : Nat} {d : List Pr} (h : OwnP w B a c d) : d.length ≤ 9223372036854775807 := Nat.le_trans (own_cap h).1 (own_cap h).2
set_option maxRecDepth 100000 in
set_option maxHeartbeats 1600000 in
theorem rcut_any (N c m : Int) (a : Option Addr) (l : List A) (cap : Nat) (w : World) (hl : l.length ≤ 9223372036854775807) (hr : Arcs w a l) :
    Calls Tryz.prog 19 #[.agg #[.int .i64 N, .slice a l.length cap], .int .i64 c, .int .i64 m] w fun e w' => ∃ v cc xs, e = .returned (.tuple #[.slice v xs.length cc, .int .i64 (gchk N c m l)]) ∧ OwnP w' w.heap.size v cc xs ∧ Hid (gchk N c m l = 0 → CutIs N.toNat l c.toNat m.toNat xs) ∧ Hid (gchk N c m l ≠ 0 → xs = []) ∧ Below w.heap.size w w' := by
  have hb0 : Below w.heap.size w (w.alloc (.cells #[.int .i64 N, .slice a l.length cap] 24)) := (Below.refl _ _).alloc (Nat.le_refl _) _
  have hg := heap_top w (.cells #[.int .i64 N, .slice a l.length cap] 24)
  have HR := Lib.hid (hr.on hb0)
  have hwz : w.heap.size ≤ (w.alloc (.cells #[.int .i64 N, .slice a l.length cap] 24)).heap.size := hb0.size
  have HB0 := Lib.hid hb0
  obtain ⟨G, HG⟩ := named (gchk N c m l)
  rw [HG.out]
  clear hb0 hr
  generalize hp : w.heap.size = p at *
  go_enter Tryz.func19, Tryz.ntmps19
  go_wp2_with fail
  generalize hW : w.alloc (.cells #[.int .i64 N, .slice a l.length cap] 24) = W at *
  clear hW
  have hpz : p < W.heap.size := lt_of_block hg
  refine (rregion_any N c m a l cap W hl HR.out).mono ?_
  rintro e w1 ⟨v1, xs1, rfl, _, _, hb1⟩
  have HB1 : Hid (Below p w w1) := HB0.out.trans (hb1.mono hwz)
  have hg1 := (hb1.block p hpz).trans hg
  obtain ⟨⟨c0, c1⟩, _⟩ := two_cells hg1
  have HR1 := Lib.hid (HR.out.on hb1)
  have hz1 : p < w1.heap.size := lt_of_block hg1
  rw [HG.out]
  clear hb1 hg HR hwz
  by_cases hG : G ≠ 0
  · have e1 : (G != 0) = true := by simpa using hG
    go_wp2_with fail
    go_ret2
    exact ⟨none, 0, [], rfl, ⟨rfl, .inl ⟨rfl, rfl⟩⟩, fun h => absurd h hG, fun _ => rfl, HB1.out⟩
  obtain rfl : G = 0 := by omega
  obtain ⟨hC, ⟨hc0, hcN⟩, hm1, hm2⟩ := gchk_zero HG.out
  obtain ⟨n, hn⟩ : ∃ n : Nat, N = n := ⟨N.toNat, by omega⟩
  obtain ⟨v, hv⟩ : ∃ v : Nat, c = v := ⟨c.toNat, by omega⟩
  obtain ⟨t, ht⟩ : ∃ t : Nat, m = t := ⟨m.toNat, by omega⟩
  subst hn hv ht
  clear hG
  have HRA := Lib.hid (raround8_any n v t a l cap w1 hC (by omega) (by omega) HR1.out)
  go_wp2_with fail
  refine HRA.out.mono ?_
  rintro e w2 ⟨v2, c2, xs, rfl, hown2, hci, hb2⟩
  have HB2 : Hid (Below p w w2) := HB1.out.trans (hb2.mono (by omega))
  have HO2 : Hid (OwnP w2 p v2 c2 xs) := own_base hown2 (by omega)
  have HCI := Lib.hid hci
  clear hb2 hown2 hci HRA
  go_wp2_with fail
  go_ret2
  exact ⟨v2, c2, xs, rfl, HO2.out, HCI, Lib.hid trivial, HB2.out⟩
theorem CutIs.same {n : Nat} {l : List A} {c m : Nat} {x y : List Pr} (hC : chkE n l = 0) (hc : c < n) (hm : 1 ≤ m) (h1 : CutIs n l c m x) (h2 : CutIs n l c m y) : x = y := by
  obtain ⟨_, hn, hl, _⟩ := chk_zero hC
  unfold CutIs at h1 h2
  by_cases hq : (reg n l c m).length = n
  · rw [if_pos hq] at h1 h2
    rw [h1, h2]
  · rw [if_neg hq] at h1 h2
    obtain ⟨f1, r1, c1, rfl⟩ := h1
    obtain ⟨f2, r2, c2, rfl⟩ := h2
    exact Cf.one (by omega) hl hc hm c1 c2
set_option maxRecDepth 100000 in
set_option maxHeartbeats 6400000 in
theorem cuts_any (N c m : Int) (a : Option Addr) (l : List A) (cap : Nat) (w : World) (hlen : l.length * 24 ≤ 140737488351232) (hna : a = none → l = [] ∧ cap = 0) (hr : Arcs w a l) :
    Calls Tryz.prog 4 #[.agg #[.int .i64 N, .slice a l.length cap], .int .i64 c, .int .i64 m] w fun e w' => e = .returned (.bool true) ∧ Below w.heap.size w w' := by
  have hl : l.length ≤ 9223372036854775807 := by omega
  have hb0 : Below w.heap.size w (w.alloc (.cells #[.int .i64 N, .slice a l.length cap] 24)) := (Below.refl _ _).alloc (Nat.le_refl _) _
  have hg := heap_top w (.cells #[.int .i64 N, .slice a l.length cap] 24)
  have HAR := Lib.hid hr
  have HNA := Lib.hid hna
  clear hr hna
  generalize hp : w.heap.size = p at *
  go_enter Tryz.func4, Tryz.ntmps4
  go_wp2_with fail
  generalize hW : w.alloc (.cells #[.int .i64 N, .slice a l.length cap] 24) = W at *
  refine (refused_any N a l cap W hl).mono ?_
  rintro e w1 ⟨rfl, hb1⟩
  have hg1 := (hb1.block _ (lt_of_block hg)).trans hg
  have HB1 := Lib.hid (below_tr hb0 hp hb1)
  obtain ⟨⟨g0, g1⟩, _⟩ := two_cells hg1
  clear hb1 hg hb0 hW
  obtain ⟨rf, HRF⟩ := named (refB N l)
  rw [HRF.out]
  cases rf
  · have HLE := Lib.hid (lend_any N a l cap w1 hlen HNA.out (HAR.out.on (by rw [hp]; exact HB1.out)))
    go_wp2_with fail
    refine HLE.out.mono ?_
    rintro e w3 ⟨g, cg, rfl, hcg1, hcg2, hown, hb2⟩
    have HS3 := Lib.hid (still_own hown)
    have HB3 := Lib.hid (below_tr HB1.out hp hb2)
    have hg3 := (hb2.block _ (lt_of_block hg1)).trans hg1
    clear hown g0 g1 hb2 HLE
    have hb34 : Below w3.heap.size w3 (w3.alloc (.cells #[.int .i64 N, .slice (some ⟨g, 0, none⟩) l.length cg] 24)) := (Below.refl _ _).alloc (Nat.le_refl _) _
    have hi4 := heap_top w3 (.cells #[.int .i64 N, .slice (some ⟨g, 0, none⟩) l.length cg] 24)
    have HBW4 := Lib.hid (below_tr HB3.out hp hb34)
    have HS4 := Lib.hid (HS3.out.on hb34)
    have hg4 := (hb34.block _ (lt_of_block hg3)).trans hg3
    obtain ⟨⟨y0, y1⟩, _⟩ := two_cells hi4
    clear hb34
    go_wp2_with fail
    generalize hw4 : w3.alloc (.cells #[.int .i64 N, .slice (some ⟨g, 0, none⟩) l.length cg] 24) = w4 at *
    generalize hri : w3.heap.size = r at *
    clear hw4
    refine (ncut_any N c m (some ⟨g, 0, none⟩) l cg w4 hl HS4.out.arcs).mono ?_
    rintro e w5 ⟨v5, c5, ps, rfl, hown5, h51, h52, hb5⟩
    have HL5 := Lib.hid hb5
    have HBW5 := Lib.hid (below_tr HBW4.out hp hb5)
    have hg5 := (hb5.block _ (lt_of_block hg4)).trans hg4
    have hi5 := (hb5.block _ (lt_of_block hi4)).trans hi4
    obtain ⟨⟨z0, z1⟩, _⟩ := two_cells hg5
    have HO5 := Lib.hid hown5
    obtain ⟨E, HE⟩ := named (gchk N c m l)
    rw [HE.out] at h51 h52 ⊢
    clear hown5 hb5 y0 y1
    go_wp2_with fail
    refine (rcut_any N c m a l cap w5 hl (HAR.out.on (by rw [hp]; exact HBW5.out))).mono ?_
    rintro e w6 ⟨v6, c6, ps', rfl, hown6, h61, h62, hb6⟩
    rw [HE.out] at h61 h62 ⊢
    obtain rfl : ps' = ps := by
      by_cases hE : E = 0
      · obtain ⟨hC, ⟨hc0, hcN⟩, hm1, hm2⟩ := gchk_zero (HE.out.trans hE)
        have hNn : ((N.toNat : Nat) : Int) = N := by omega
        exact CutIs.same (n := N.toNat) (by rw [hNn]; exact hC) (by omega) (by omega) (h61.out hE) (h51.out hE)
      · rw [h62.out hE, h52.out hE]
    have HL6 : Hid (Below w4.heap.size w4 w6) := HL5.out.trans (hb6.mono HL5.out.size)
    have HBW6 := Lib.hid (below_tr HBW5.out hp hb6)
    have hi6 := (hb6.block _ (lt_of_block hi5)).trans hi5
    have hg6 := (hb6.block _ (lt_of_block hg5)).trans hg5
    have HP5 := Lib.hid ((OwnP.prs HO5.out).on hb6)
    have HP6 := Lib.hid (OwnP.prs hown6)
    have hpl : ps'.length ≤ 9223372036854775807 := ownP_len hown6
    have hEE : (E == E) = true := by simp
    clear hown6 hb6 z0 z1 HO5 h51 h52 h61 h62
    go_wp2_with fail
    refine (samePr_any v5 v6 c5 c6 ps' w6 hpl HP5.out HP6.out).mono ?_
    rintro e w9 ⟨rfl, hb9⟩
    have HL9 : Hid (Below w4.heap.size w4 w9) := HL6.out.trans (hb9.mono HL6.out.size)
    have HBW9 := Lib.hid (below_tr HBW6.out hp hb9)
    have hg9 := (hb9.block _ (lt_of_block hg6)).trans hg6
    have hi9 := (hb9.block _ (lt_of_block hi6)).trans hi6
    obtain ⟨⟨z0, z1⟩, _⟩ := two_cells hg9
    obtain ⟨⟨y0, y1⟩, _⟩ := two_cells hi9
    clear hb9
    go_wp2_with fail
    refine (kept_any N g cg a l cap w9 hlen hcg1 hcg2 (HS4.out.on HL9.out) (HAR.out.on (by rw [hp]; exact HBW9.out))).mono ?_
    rintro e w10 ⟨rfl, hb10⟩
    have HBW10 := Lib.hid (below_tr HBW9.out hp hb10)
    clear hb10
    go_wp2_with fail
    refine (works_any w10).mono ?_
    rintro e w12 ⟨rfl, hb12⟩
    have HBW12 := Lib.hid (below_tr HBW10.out hp hb12)
    clear hb12
    go_wp2_with fail
    go_ret
    exact ⟨rfl, HBW12.out⟩
  · go_wp2_with fail
    refine (works_any w1).mono ?_
    rintro e w2 ⟨rfl, hb2⟩
    have HB2 := Lib.hid (below_tr HB1.out hp hb2)
    clear hb2
    go_wp2_with fail
    go_ret
    exact ⟨rfl, HB2.out⟩
end Go.Proofs.YtpgadcacimjlaaaGreat
