/-
  SplitHolds holds.
-/
import Derived.Test.YtchfccbneedejaaZCC
import Derived.Test.YtchfccbneedejaaZAN
namespace Go.Proofs.Ytchfccbneedejaa
open Go.RowKit
theorem below_tr {p : Nat} {w w1 w2 : World} (h : Below p w w1) (hp : w.heap.size = p) (h2 : Below w1.heap.size w1 w2) : Below p w w2 := h.trans (h2.mono (hp ▸ h.size))
/-- What is put together of labels under the bound. -/
theorem join_holds {n : Nat} {l : List A} {L : List Nat} {B : Nat} (hC : chkE n l = 0) (hL : L.length = n) (hT : tdy (ints L) 0 = true) (hU : Und B L) (hB1 : 1 ≤ B) (hB2 : B ≤ 1024) : jnE n l (ints L) B = 0 ∧ ∀ E, JnR n l (ints L) B E → E.length = L.length ∧ tdy (ints E) 0 = true ∧ Und B E ∧ (∀ u v, u < L.length → v < L.length → L.getD u 0 = L.getD v 0 → E.getD u 0 = E.getD v 0) ∧ ∃ F, Jn (prl l) B L F ∧ E = tdL F := by
  have hck : ckE n l (ints L) B = 0 := by
    unfold ckE
    rw [if_neg (by rw [siE_ok hC hL hT]; simp), if_neg (by omega)]
  have hj : jnE n l (ints L) B = 0 := by
    unfold jnE
    rw [if_neg (by rw [hck]; simp), if_neg ?_]
    obtain ⟨j, _, e⟩ := mxL_at (szL (ints L)) ((szL (ints L)).length - 1)
    have := sz_bound hT hU j
    omega
  refine ⟨hj, fun E h => ?_⟩
  obtain ⟨F, hF, rfl⟩ := h.1 hj
  have e1 : (ints L).map Int.toNat = L := by simp [ints, Function.comp_def]
  rw [e1, Int.toNat_natCast] at hF
  have hl := hF.len
  refine ⟨by rw [tdL_len]; exact hl, tdL_right F, tdL_und (hF.und hU), fun u v hu hv he => ?_, F, hF, rfl⟩
  rw [tdL_eq (by omega) (by omega)]
  exact hF.same u v hu hv he
set_option maxRecDepth 100000 in
set_option maxHeartbeats 3200000 in
theorem holds_any (N : Int) (a : Option Addr) (l : List A) (cap : Nat) (ax : Option Addr) (xs : List Int) (cx : Nat) (bd : Int) (w : World) (hlen : l.length * 24 ≤ 140737488351232) (hr : Arcs w a l) (hlx : xs.length * 8 ≤ 140737488351232) (hrx : Ints w ax xs) :
    Calls Try.prog 5 #[.agg #[.int .i64 N, .slice a l.length cap], .slice ax xs.length cx, .int .i64 bd] w fun e w' => e = .returned (.bool true) ∧ Below w.heap.size w w' := by
  have HIX := Lib.hid hrx
  have hl : l.length ≤ 9223372036854775807 := by omega
  have hml : xs.length ≤ 9223372036854775807 := by omega
  have hb0 : Below w.heap.size w (w.alloc (.cells #[.int .i64 N, .slice a l.length cap] 24)) := (Below.refl _ _).alloc (Nat.le_refl _) _
  have hg := heap_top w (.cells #[.int .i64 N, .slice a l.length cap] 24)
  have HAR := Lib.hid hr
  clear hrx hr
  generalize hp : w.heap.size = p at *
  go_enter Try.func5, Try.ntmps5
  go_wp2_with fail
  generalize hW : w.alloc (.cells #[.int .i64 N, .slice a l.length cap] 24) = W at *
  refine (works_any W).mono ?_
  rintro e w1 ⟨rfl, hb1⟩
  have hg1 := (hb1.block _ (lt_of_block hg)).trans hg
  have HB1 := Lib.hid (below_tr hb0 hp hb1)
  obtain ⟨⟨g0, g1⟩, _⟩ := two_cells hg1
  clear hb1 hg hb0 hW
  go_wp2_with fail
  refine (large_any N a l cap w1 hl (HAR.out.on (by rw [hp]; exact HB1.out))).mono ?_
  rintro e w2 ⟨rfl, hb2⟩
  have hg2 := (hb2.block _ (lt_of_block hg1)).trans hg1
  have HB2 := Lib.hid (below_tr HB1.out hp hb2)
  clear hb2 g0 g1
  obtain ⟨⟨g0, g1⟩, _⟩ := two_cells hg2
  obtain ⟨V, HV⟩ := named (lgB N l)
  rw [HV.out]
  cases V
  · go_wp2_with fail
    refine (cutUp_any N a l cap ax xs cx bd w2 hl hml (HAR.out.on (by rw [hp]; exact HB2.out)) (HIX.out.on (by rw [hp]; exact HB2.out))).mono ?_
    rintro e w3 ⟨v3, c3, P, rfl, hown3, hP, hb3⟩
    have hg3 := (hb3.block _ (lt_of_block hg2)).trans hg2
    have HB3 := Lib.hid (below_tr HB2.out hp hb3)
    have HO3 := Lib.hid hown3
    obtain ⟨⟨z0, z1⟩, _⟩ := two_cells hg3
    clear hb3 hown3 g0 g1
    by_cases hE : ckE N l xs bd = 0
    · obtain ⟨h1, h2, h3, h4, h5⟩ := ckE_zero hE
      rw [hE]
      rw [if_pos hE] at hP
      obtain ⟨L, HL⟩ := named (xs.map Int.toNat)
      have e1 : xs = ints L := by rw [← HL.out]; exact right_ints h3
      obtain ⟨B, rfl⟩ : ∃ B : Nat, bd = (B : Int) := ⟨bd.toNat, by omega⟩
      rw [HL.out, Int.toNat_natCast] at hP
      have hLn : L.length = xs.length := by rw [e1, ints_len]
      have hC : chkE (L.length : Nat) l = 0 := by rw [hLn, h2]; exact h1
      have hT : tdy (ints L) 0 = true := e1 ▸ h3
      obtain ⟨q1, q2, q3, q4⟩ := cuL_holds (bd := B) hC rfl hT (by omega)
      rw [← hP] at q1 q2 q3 q4
      have hC2 : chkE (P.length : Nat) l = 0 := by rw [q1]; exact hC
      obtain ⟨r1, r2⟩ := join_holds (B := B) hC2 rfl q2 q3 (by omega) (by omega)
      have hNP : N = ((P.length : Nat) : Int) := by rw [q1, hLn]; exact h2.symm
      subst hNP
      have hPn : P.length ≤ 1024 := by have := (chk_zero hC2).2.1; omega
      have HC2 := Lib.hid hC2
      have HQ2 := Lib.hid q2
      have HQ3 := Lib.hid q3
      have HR2 := Lib.hid r2
      have HI3 := Lib.hid (own_ints HO3.out rfl)
      have HJO := Lib.hid (join_all P.length a l cap v3 (ints P) c3 B w3 hl (by rw [ints_len]; omega) (HAR.out.on (by rw [hp]; exact HB3.out)) HI3.out)
      rw [r1, ints_len] at HJO
      have HQ4 := Lib.hid q4
      have HLX : Hid (Ints w ax (ints L)) := by rw [← e1]; exact HIX.out
      have hXL : xs.length = P.length := by omega
      have HLP : Hid (L.length = P.length) := q1.symm
      rw [hXL]
      clear hXL hE h1 h2 h3 h4 h5 e1 hP hLn hC hT q1 q2 q3 q4 hC2 r1 r2
      go_wp2_with fail
      refine HJO.out.mono ?_
      rintro e w4 ⟨v4, c4, E, rfl, hown4, hJ, hb4⟩
      obtain ⟨s1, s2, s3, s4, _⟩ := HR2.out E hJ.out
      have hg4 := (hb4.block _ (lt_of_block hg3)).trans hg3
      have HB4 := Lib.hid (below_tr HB3.out hp hb4)
      have HI4 := Lib.hid (HI3.out.on hb4)
      have HE4 := Lib.hid (own_ints hown4 rfl)
      obtain ⟨⟨g0, g1⟩, _⟩ := two_cells hg4
      have HS1 := Lib.hid s1
      have HS4 := Lib.hid s4
      have HBA := Lib.hid (fun W (h1 : Arcs W a l) (h2 : Ints W v3 (ints P)) => bounded_any P.length a l cap v3 P c3 B W HC2.out rfl HQ2.out HQ3.out h1 h2)
      have HBE := Lib.hid (fun W (h1 : Arcs W a l) (h2 : Ints W v4 (ints E)) => bounded_any P.length a l cap v4 E c4 B W HC2.out s1 s2 s3 h1 h2)
      rw [s1] at HBE ⊢
      clear hb4 hown4 hJ s1 s2 s3 s4 z0 z1 HJO
      have HBA4 := Lib.hid (HBA.out w4 (HAR.out.on (by rw [hp]; exact HB4.out)) HI4.out)
      go_wp2_with fail
      refine HBA4.out.mono ?_
      rintro e w5 ⟨rfl, hb5⟩
      have hg5 := (hb5.block _ (lt_of_block hg4)).trans hg4
      have HB5 := Lib.hid (below_tr HB4.out hp hb5)
      have HI5 := Lib.hid (HI4.out.on hb5)
      have HE5 := Lib.hid (HE4.out.on hb5)
      clear g0 g1
      obtain ⟨⟨g0, g1⟩, _⟩ := two_cells hg5
      have HBE5 := Lib.hid (HBE.out w5 (HAR.out.on (by rw [hp]; exact HB5.out)) HE5.out)
      clear hb5 HBA4
      go_wp2_with fail
      refine HBE5.out.mono ?_
      rintro e w6 ⟨rfl, hb6⟩
      have HB6 := Lib.hid (below_tr HB5.out hp hb6)
      obtain ⟨ix, ox, hix⟩ := (HLX.out.on (show Below w.heap.size w w6 by rw [hp]; exact HB6.out)).get
      obtain ⟨iy, oy, hiy⟩ := (HI5.out.on hb6).get
      obtain ⟨iz, oz, hiz⟩ := (HE5.out.on hb6).get
      have HX := Lib.hid hix
      have HY := Lib.hid hiy
      have HZ := Lib.hid hiz
      clear hb6 HBE5 g0 g1 hix hiy hiz HBA HBE
      go_wp2_with fail
      go_loopw [54] (fun i wr => ∃ k : Nat, k ≤ P.length ∧ i = .int .i64 k ∧ Hid (Below w6.heap.size w6 wr)) (fun i _ => P.length - (intOf i).toNat)
      case atStart => exact ⟨0, Nat.zero_le _, rfl, Below.refl _ _⟩
      case round =>
        obtain ⟨k, hk, rfl, HK⟩ := hrel
        by_cases hlk : k < P.length
        · have hlk' : (k : Int) < P.length := by omega
          obtain ⟨rfl, hbx, hatx⟩ := HX.out (by rw [ints_len, HLP.out]; omega)
          obtain ⟨rfl, hby, haty⟩ := HY.out (by rw [ints_len]; omega)
          obtain ⟨rfl, hbz, hatz⟩ := HZ.out (by rw [ints_len, HS1.out]; omega)
          have HAX := Lib.hid hatx
          have HAY := Lib.hid haty
          have HAZ := Lib.hid hatz
          clear hatx haty hatz
          go_wp2_with fail
          go_loopw [58] (fun i wr => ∃ m : Nat, m ≤ k ∧ i = .int .i64 m ∧ Hid (Below w6.heap.size w6 wr)) (fun i _ => k - (intOf i).toNat)
          case atStart => exact ⟨0, Nat.zero_le _, rfl, HK⟩
          case round =>
            obtain ⟨m, hm, rfl, HMM⟩ := hrel
            by_cases hlm : m < k
            · have hlm' : (m : Int) < k := by omega
              have hmP : (m : Int) < P.length := by omega
              have x0 := (HMM.out.cell (p := ⟨ix, ox + m, none⟩) hbx).trans (HAX.out m (by rw [ints_len, HLP.out]; omega))
              have x1 := (HMM.out.cell (p := ⟨ix, ox + k, none⟩) hbx).trans (HAX.out k (by rw [ints_len, HLP.out]; omega))
              have y0 := (HMM.out.cell (p := ⟨iy, oy + m, none⟩) hby).trans (HAY.out m (by rw [ints_len]; omega))
              have y1 := (HMM.out.cell (p := ⟨iy, oy + k, none⟩) hby).trans (HAY.out k (by rw [ints_len]; omega))
              have z0 := (HMM.out.cell (p := ⟨iz, oz + m, none⟩) hbz).trans (HAZ.out m (by rw [ints_len, HS1.out]; omega))
              have z1 := (HMM.out.cell (p := ⟨iz, oz + k, none⟩) hbz).trans (HAZ.out k (by rw [ints_len, HS1.out]; omega))
              rw [ints_getD (by rw [HLP.out]; omega)] at x0 x1
              rw [ints_getD (by omega)] at y0 y1
              rw [ints_getD (by rw [HS1.out]; omega)] at z0 z1
              have k1 := HQ4.out m k (by rw [HLP.out]; omega) (by rw [HLP.out]; omega)
              have k2 := HS4.out m k (by omega) (by omega)
              generalize L.getD m 0 = lm at *
              generalize L.getD k 0 = lk at *
              generalize P.getD m 0 = pm at *
              generalize P.getD k 0 = pk at *
              generalize E.getD m 0 = em at *
              generalize E.getD k 0 = ek at *
              have hqn : ∃ nq, True := ⟨0, trivial⟩
              by_cases hpp : pm = pk
              · have t1 : ((lm : Int) != (lk : Int)) = false := by simp; have := k1 hpp; omega
                have t2 : ((pm : Int) == (pk : Int)) = true := by simp; omega
                have t3 : ((em : Int) != (ek : Int)) = false := by simp; have := k2 hpp; omega
                clear k1 k2 hpp hqn
                go_wp2_with fail
                go_quiet (fail)
                go_wp2_with fail
                exact ⟨⟨m + 1, by omega, by simp, HMM.out.trans ⟨rfl, rfl, rfl, Nat.le_refl _, fun _ _ => rfl⟩⟩, by simp [intOf]; omega⟩
              · have t2 : ((pm : Int) == (pk : Int)) = false := by simp; omega
                clear k1 k2 hpp hqn
                by_cases hll : lm = lk
                · have t1 : ((lm : Int) != (lk : Int)) = false := by simp; omega
                  clear hll
                  go_wp2_with fail
                  go_quiet (fail)
                  go_wp2_with fail
                  exact ⟨⟨m + 1, by omega, by simp, HMM.out.trans ⟨rfl, rfl, rfl, Nat.le_refl _, fun _ _ => rfl⟩⟩, by simp [intOf]; omega⟩
                · have t1 : ((lm : Int) != (lk : Int)) = true := by simp; omega
                  clear hll
                  go_wp2_with fail
                  go_quiet (fail)
                  go_wp2_with fail
                  exact ⟨⟨m + 1, by omega, by simp, HMM.out.trans ⟨rfl, rfl, rfl, Nat.le_refl _, fun _ _ => rfl⟩⟩, by simp [intOf]; omega⟩
            · have hlm' : ¬ (m : Int) < k := by omega
              go_wp2_with fail
              exact ⟨⟨k + 1, by omega, by simp, HMM⟩, by simp [intOf]; omega⟩
        · have hlk' : ¬ (k : Int) < P.length := by omega
          go_wp2_with fail
          go_ret
          exact ⟨rfl, below_tr HB6.out hp HK.out⟩
    · rw [if_neg hE] at hP
      subst hP
      obtain ⟨E, HE⟩ := named (ckE N l xs bd)
      rw [HE.out] at hE ⊢
      have e1 : (E != 0) = true := by simpa using hE
      have e2 : ((([] : List Nat).length : Int) == 0) = true := rfl
      clear hE
      go_wp2_with fail
      go_ret
      exact ⟨rfl, HB3.out⟩
  · go_wp2_with fail
    go_ret
    exact ⟨rfl, HB2.out⟩
end Go.Proofs.Ytchfccbneedejaa
