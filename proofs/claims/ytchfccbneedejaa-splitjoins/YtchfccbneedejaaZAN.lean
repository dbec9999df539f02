/-
  Contracts of flyoverref08.Right and flyoverref09.Size. The contract of split.Join. The contract of split.Join, whatever is given. The chapter's first example: the mathematics. works holds. Arcs as cells; the contract of the book's SameGraph. The contract of flyoverref03.Check. The contract of large.
-/
import Derived.Test.YtchfccbneedejaaZAK
import Derived.Test.YtchfccbneedejaaZAM
import Derived.Deep.LoopGhost
import Derived.Test.YtchfccbneedejaaZAA
import Derived.Laws.StructEq
import Derived.Test.YtchfccbneedejaaZAJ
namespace Go.Proofs.Ytchfccbneedejaa
open Go.RowKit
theorem rules_cells (w : World) : ∀ k, k < 3 → (w.alloc (.cells #[.func (.func 41) #[] #[], .func (.func 42) #[] #[], .func (.func 43) #[] #[]] 62)).cell? ⟨w.heap.size, k, none⟩ = some (ruleV k) := fun k hk => by
  have h := three_cells (heap_top w (.cells #[.func (.func 41) #[] #[], .func (.func 42) #[] #[], .func (.func 43) #[] #[]] 62))
  match k, hk with
  | 0, _ => exact h.1
  | 1, _ => exact h.2.1
  | 2, _ => exact h.2.2
set_option maxRecDepth 100000 in
set_option maxHeartbeats 3200000 in
theorem join_ok (n : Nat) (a : Option Addr) (l : List A) (cap : Nat) (ad : Addr) (L : List Nat) (bc B : Nat) (w : World) (hC : chkE n l = 0) (hL : L.length = n) (hT : tdy (ints L) 0 = true) (hB1 : 1 ≤ B) (hB2 : B ≤ 1024) (hm : mxL (szL (ints L)) ((szL (ints L)).length - 1) ≤ B) (hr : Arcs w a l) (hi : Ints w (some ad) (ints L)) :
    Calls Try.prog 20 #[.agg #[.int .i64 n, .slice a l.length cap], .slice (some ad) L.length bc, .int .i64 B] w fun e w' => ∃ v c E, e = .returned (.tuple #[.slice v E.length c, .int .i64 0]) ∧ w'.ownsRow w.heap.size 3 1 (.slice v E.length c) E.length (cellsI (ints E)) ∧ Hid (∃ F, Jn (prl l) B L F ∧ E = tdL F) ∧ Below w.heap.size w w' := by
  subst hL
  obtain ⟨h1n, hn, hl, hoa⟩ := chk_zero hC
  have hn' : L.length ≤ 1024 := by omega
  have h1n' : 0 < L.length := by omega
  have HPI := Lib.hid (prl_in hC)
  have hPL : (prl l).length ≤ 8192 := Nat.le_trans (prl_len l) hl
  have HCK : Hid (ckE L.length l (ints L) B = 0) := by
    show _ = _
    unfold ckE siE szE
    rw [if_neg (by rw [hC, if_neg (by simp), if_neg (by rw [ints_len]; simp [hT])]; simp), if_neg (by omega)]
  have hb0 : Below w.heap.size w (w.alloc (.cells #[.int .i64 L.length, .slice a l.length cap] 24)) := (Below.refl _ _).alloc (Nat.le_refl _) _
  have hg := heap_top w (.cells #[.int .i64 L.length, .slice a l.length cap] 24)
  have HR := Lib.hid (hr.on hb0)
  have HI := Lib.hid (hi.on hb0)
  have HB0 := Lib.hid hb0
  have hwz : w.heap.size ≤ (w.alloc (.cells #[.int .i64 L.length, .slice a l.length cap] 24)).heap.size := hb0.size
  have HSZ := Lib.hid (scheck_any L.length a l cap (some ad) (ints L) bc B (w.alloc (.cells #[.int .i64 L.length, .slice a l.length cap] 24)) (by omega) (by rw [ints_len]; omega) HR.out HI.out)
  rw [HCK.out, if_pos rfl, ints_len] at HSZ
  have HST : Hid (∀ q, Lks (prl l) L q → JI (prl l) B L L (szL (ints L)) (fits (szL (ints L)) B q)) := fun q hq => JI.start hT hn' HPI.out hq
  obtain ⟨PP, HPP⟩ := named (prl l)
  rw [HPP.out] at HPI hPL HST ⊢
  have hS0 := szL_pos hT h1n'
  have HSO := Lib.hid (right_sz hT)
  have hS1 : (szL (ints L)).length ≤ 1024 := Nat.le_trans (szL_length _) (by rw [ints_len]; exact hn')
  have HSB : Hid (∀ j, (szL (ints L)).getD j 0 ≤ 1024) := fun j => by rw [sz_cnt hT]; exact Nat.le_trans List.count_le_length hn'
  obtain ⟨S, HS⟩ := named (szL (ints L))
  rw [HS.out] at HSZ HST hS0 HSO hS1 HSB hm
  have HC := Lib.hid hC
  clear hb0 hr hi hT hC h1n hn hoa
  generalize hp : w.heap.size = p at *
  obtain ⟨⟨c0, c1⟩, _⟩ := two_cells hg
  have HG := Lib.hid hg
  go_enter Try.func20, Try.ntmps20
  go_wp2_with fail
  generalize hW : w.alloc (.cells #[.int .i64 L.length, .slice a l.length cap] 24) = W at *
  clear hW hg
  have hpW : p < W.heap.size := lt_of_block HG.out
  refine HSZ.out.mono ?_
  rintro e w1 ⟨v1, c1', S', rfl, hown1, rfl, hb1⟩
  obtain ⟨sg, sc, hv1, hsg, _, hsw, _⟩ := own_shape hown1 (fun e => by injection e with _ e2 _; omega)
  injection hv1 with hv1 _ hv3
  subst hv1 hv3
  have HO1 := Lib.hid (own_base hown1 hwz)
  have HB1 : Hid (Below p w w1) := HB0.out.trans (hb1.mono hwz)
  have HR1 := Lib.hid (HR.out.on hb1)
  have HI1 := Lib.hid (HI.out.on hb1)
  have hg1 := (hb1.block p hpW).trans HG.out
  have HG1 := Lib.hid hg1
  obtain ⟨⟨d0, d1⟩, _⟩ := two_cells hg1
  have hp1 : p ≤ w1.heap.size := Nat.le_trans hwz hb1.size
  have hp1' : p < w1.heap.size := Nat.lt_of_lt_of_le hpW hb1.size
  have HII := Lib.hid (own_ints HO1.out rfl)
  clear hb1 hown1 hg1 c0 c1 HSZ HR HI HG HB0 hsg
  go_wp2_with fail
  refine (max_any _ S' c1' w1 hS0 hS1 HII.out).mono ?_
  rintro e w2 ⟨rfl, hb2⟩
  have HO2 := Lib.hid (own_on HO1.out hb2)
  have HB2 : Hid (Below p w w2) := HB1.out.trans (hb2.mono hp1)
  have HR2 := Lib.hid (HR1.out.on hb2)
  have HI2 := Lib.hid (HI1.out.on hb2)
  have hg2 := (hb2.block p hp1').trans HG1.out
  have HG2 := Lib.hid hg2
  obtain ⟨⟨e0, e1⟩, _⟩ := two_cells hg2
  have hp2 : p ≤ w2.heap.size := Nat.le_trans hp1 hb2.size
  have hm' : ¬ (B : Int) < ((mxL S' (S'.length - 1) : Nat) : Int) := by omega
  generalize mxL S' (S'.length - 1) = mx at *
  clear hb2 hg2 d0 d1 HO1 HB1 HR1 HI1 HG1 HII
  go_wp2_with fail
  have HPA := Lib.hid (pairs_any L.length a l cap w2 (by omega) HR2.out)
  rw [HC.out] at HPA
  refine HPA.out.mono ?_
  rintro e w3 ⟨pv, pc, ps, rfl, hown3, hps, hb3⟩
  rw [if_pos rfl, HPP.out] at hps
  subst hps
  have HO3 := Lib.hid (own_on HO2.out hb3)
  have HB3 : Hid (Below p w w3) := HB2.out.trans (hb3.mono hp2)
  have HI3 := Lib.hid (HI2.out.on hb3)
  have HP3 := Lib.hid hown3.prs
  have hp3 : p ≤ w3.heap.size := Nat.le_trans hp2 hb3.size
  clear hb3 hown3 HPA HO2 HB2 HI2 HR2 HG2 e0 e1
  go_wp2_with fail
  refine (sbegin_any pv ps pc ad L bc S' sg c1' B p w3 hPL hn' HPI.out (fun x hx => (HSO.out x hx).1) hS1 HSB.out hB2 hp3 HP3.out HI3.out HO3.out).mono ?_
  rintro e w4 ⟨jb, rfl, H4, hb4⟩
  obtain ⟨lg, lc, ov, q, hj4, hq, hql⟩ := H4.out
  have HJ4 := Lib.hid hj4
  have HJI := Lib.hid (HST.out q hq)
  have HB4 : Hid (Below p w w4) := HB3.out.trans (hb4.mono hp3)
  clear H4 hj4 hq hb4 HO3 HB3 HI3 HP3 HST
  go_wp2_with fail
  go_loopg [] (L.sum) (fun gk wr => ∃ (Lc Sc : List Nat) (O : List K) (ov : Value), Lc.sum = gk ∧ Sc.length = S'.length ∧ Hid (JI ps B L Lc Sc O) ∧ Hid (JS wr jb p B Lc Sc O lg sg lc c1' ov) ∧ Hid (Below p w wr))
  case atStart => exact ⟨L, S', _, ov, rfl, rfl, HJI, HJ4, HB4⟩
  case round =>
    obtain ⟨Lc, Sc, O, ov, rfl, hSc, HJ, HJS, HBW⟩ := hrel
    clear HJI HJ4 HB4
    obtain ⟨av, cv, rfl⟩ := own_slice HJS.out.oo
    obtain ⟨j0, j1, j2, j3⟩ := four_cellsJ HJS.out.hd
    have hOL : O.length ≤ 8192 := Nat.le_trans HJ.out.opn.len hPL
    have hpr : p ≤ wr.heap.size := by have := HBW.out.size; omega
    by_cases h0 : 0 < O.length
    · have h0' : (0 : Int) < O.length := by omega
      obtain ⟨og, oc, hv, hog, _, hogw, _⟩ := own_shape HJS.out.oo (fun e => by injection e with _ e2 _; omega)
      injection hv with hv1 _ hv3
      subst hv1 hv3
      have HBX : Hid (Below wr.heap.size wr (wr.alloc (.cells #[.func (.func 41) #[] #[], .func (.func 42) #[] #[], .func (.func 43) #[] #[]] 62))) := (Below.refl _ _).alloc (Nat.le_refl _) _
      have HJX := Lib.hid (HJS.out.on HBX.out)
      have HBXW : Hid (Below p w (wr.alloc (.cells #[.func (.func 41) #[] #[], .func (.func 42) #[] #[], .func (.func 43) #[] #[]] 62))) := HBW.out.trans (HBX.out.mono hpr)
      have hXs : p ≤ (wr.alloc (.cells #[.func (.func 41) #[] #[], .func (.func 42) #[] #[], .func (.func 43) #[] #[]] 62)).heap.size := Nat.le_trans hpr HBX.out.size
      have HCH := Lib.hid (choose_any og cv wr.heap.size O (wr.alloc (.cells #[.func (.func 41) #[] #[], .func (.func 42) #[] #[], .func (.func 43) #[] #[]] 62)) h0 (by omega) (Nat.lt_of_lt_of_le hogw HBX.out.size) (fun j hj => rowK_at HJX.out.oo j hj) (by simp) (rules_cells wr))
      have hpk := HJ.out.pick HPI.out hn' h0
      obtain ⟨m, HMM⟩ := named (pickK O (O.length - 1))
      rw [HMM.out] at HCH
      simp only [HMM.out] at hpk
      obtain ⟨k1, k2, k3, k4, k5, k6⟩ := hpk
      have HK3 := Lib.hid k3
      have HK6 := Lib.hid k6
      have HSM : Hid ((mrg Lc m.a m.b).sum < Lc.sum) := k5
      have HXV : Hid (m.val = .agg #[.int .i64 (m.a : Int), .int .i64 (m.b : Int), .int .i64 (m.n : Int)]) := rfl
      have HIN := Lib.hid (HJ.out.in HPI.out hPL)
      rw [HXV.out] at HCH
      clear k3 k5 k6
      go_wp2_with fail
      refine HCH.out.mono ?_
      rintro e w5 ⟨rfl, hb5⟩
      have HJ5 := Lib.hid (HJX.out.on hb5)
      have HB5 : Hid (Below p w w5) := HBXW.out.trans (hb5.mono hXs)
      have hp5 : p ≤ w5.heap.size := Nat.le_trans hXs hb5.size
      have HJA := Lib.hid (join_any jb p B Lc Sc O lg sg lc c1' og cv m w5 HJ5.out HIN.out (by omega) (by omega) (by rw [HJ.out.len]; exact hn') hB2 hp5 k1 k2 HK3.out k4)
      rw [HXV.out] at HJA
      clear hb5 HCH HJX HBX HBXW
      go_wp2_with fail
      refine HJA.out.mono ?_
      rintro e w6 ⟨rfl, ov6, hj6, hb6⟩
      have HJ6 := Lib.hid hj6
      have HB6 : Hid (Below p w w6) := HB5.out.trans hb6
      clear hj6 hb6 HJA
      go_wp2_with fail
      go_roundg (mrg Lc m.a m.b).sum
      case measure => exact HSM.out
      case rel => exact ⟨_, _, _, ov6, rfl, by rw [List.length_set]; exact hSc, HK6, HJ6, HB6⟩
    · have h0' : ¬ (0 : Int) < O.length := by omega
      have HJE := Lib.hid (HJ.out.end (by omega))
      have HTD := Lib.hid (tidied_any (some ⟨lg, 0, none⟩) Lc lc wr (by rw [HJ.out.len]; exact hn') (fun x hx => by have := (HJ.out.sz x hx).1; omega) (own_ints HJS.out.lo rfl))
      go_wp2_with fail
      refine HTD.out.mono ?_
      rintro e w5 ⟨g5, rfl, hown5, hb5⟩
      have HO5 := Lib.hid (own_base hown5 hpr)
      have HB5 : Hid (Below p w w5) := HBW.out.trans (hb5.mono hpr)
      clear hown5 hb5 HTD
      go_wp2_with fail
      go_ret2
      refine ⟨some ⟨g5, 0, none⟩, Lc.length, tdL Lc, ?_, HO5.out, ⟨Lc, HJE.out, rfl⟩, HB5.out⟩
      rw [tdL_len]; rfl
end Go.Proofs.Ytchfccbneedejaa
namespace Go.Proofs.Ytchfccbneedejaa
open Go.RowKit
/-- What Join tells. -/
def jnE (N : Int) (l : List A) (xs : List Int) (bd : Int) : Int := if ckE N l xs bd ≠ 0 then ckE N l xs bd else if bd < ((mxL (szL xs) ((szL xs).length - 1) : Nat) : Int) then 90 else 0
/-- The labels that Join answers. -/
def JnR (N : Int) (l : List A) (xs : List Int) (bd : Int) (E : List Nat) : Prop := (jnE N l xs bd = 0 → ∃ F, Jn (prl l) bd.toNat (xs.map Int.toNat) F ∧ E = tdL F) ∧ (jnE N l xs bd ≠ 0 → E = [])
theorem jnE_zero {N : Int} {l : List A} {xs : List Int} {bd : Int} (h : jnE N l xs bd = 0) : ckE N l xs bd = 0 ∧ ((mxL (szL xs) ((szL xs).length - 1) : Nat) : Int) ≤ bd := by
  unfold jnE at h
  by_cases h1 : ckE N l xs bd ≠ 0
  · rw [if_pos h1] at h; exact absurd h h1
  · rw [if_neg h1] at h
    by_cases h2 : bd < ((mxL (szL xs) ((szL xs).length - 1) : Nat) : Int)
    · rw [if_pos h2] at h; cases h
    · exact ⟨by simpa using h1, by omega⟩
set_option maxRecDepth 100000 in
set_option maxHeartbeats 1600000 in
theorem join_all (N : Int) (a : Option Addr) (l : List A) (cap : Nat) (b : Option Addr) (xs : List Int) (bc : Nat) (bd : Int) (w : World) (hl : l.length ≤ 9223372036854775807) (hx : xs.length ≤ 9223372036854775807) (hr : Arcs w a l) (hi : Ints w b xs) :
    Calls Try.prog 20 #[.agg #[.int .i64 N, .slice a l.length cap], .slice b xs.length bc, .int .i64 bd] w fun e w' => ∃ v c E, e = .returned (.tuple #[.slice v E.length c, .int .i64 (jnE N l xs bd)]) ∧ w'.ownsRow w.heap.size 3 1 (.slice v E.length c) E.length (cellsI (ints E)) ∧ Hid (JnR N l xs bd E) ∧ Below w.heap.size w w' := by
  by_cases h0 : ckE N l xs bd = 0
  · obtain ⟨h1, h2, h3, h4, h5⟩ := ckE_zero h0
    by_cases h6 : ((mxL (szL xs) ((szL xs).length - 1) : Nat) : Int) ≤ bd
    · have hj : jnE N l xs bd = 0 := by unfold jnE; rw [if_neg (by rw [h0]; simp), if_neg (by omega)]
      have HJR : Hid (∀ E, (∃ F, Jn (prl l) bd.toNat (xs.map Int.toNat) F ∧ E = tdL F) → JnR N l xs bd E) := fun E h => ⟨fun _ => h, fun h7 => absurd hj h7⟩
      obtain ⟨L, HL⟩ := named (xs.map Int.toNat)
      have e1 : xs = ints L := by rw [← HL.out]; exact right_ints h3
      have e2 : L.length = xs.length := by rw [← HL.out, List.length_map]
      obtain ⟨B, rfl⟩ : ∃ B : Nat, bd = (B : Int) := ⟨bd.toNat, by omega⟩
      rw [hj]
      rw [HL.out, Int.toNat_natCast] at HJR
      obtain rfl : N = ((xs.length : Nat) : Int) := h2.symm
      have h7 := (chk_zero h1).1
      obtain ⟨ad, rfl⟩ : ∃ ad, b = some ad := by
        rcases hi with rfl | ⟨g, o, hab, _⟩
        · simp at h7
        · exact ⟨_, hab⟩
      rw [e1] at hi h3 h6
      refine ((e2 ▸ join_ok L.length a l cap ad L bc B w (e2 ▸ h1) rfl h3 (by omega) (by omega) (by omega) hr hi :)).mono ?_
      rintro e w' ⟨v, c, E, rfl, ho, hE, hb⟩
      exact ⟨v, c, E, rfl, ho, HJR.out E hE.out, hb⟩
    · have hj : jnE N l xs bd = 90 := by unfold jnE; rw [if_neg (by rw [h0]; simp), if_pos (by omega)]
      have HJR : Hid (JnR N l xs bd []) := ⟨fun h7 => absurd (hj.symm.trans h7) (by decide), fun _ => rfl⟩
      rw [hj]
      have hb0 : Below w.heap.size w (w.alloc (.cells #[.int .i64 N, .slice a l.length cap] 24)) := (Below.refl _ _).alloc (Nat.le_refl _) _
      have hg := heap_top w (.cells #[.int .i64 N, .slice a l.length cap] 24)
      have HB0 := Lib.hid hb0
      have hwz : w.heap.size ≤ (w.alloc (.cells #[.int .i64 N, .slice a l.length cap] 24)).heap.size := hb0.size
      have HSZ := Lib.hid (scheck_any N a l cap b xs bc bd (w.alloc (.cells #[.int .i64 N, .slice a l.length cap] 24)) hl hx (hr.on hb0) (hi.on hb0))
      rw [h0, if_pos rfl] at HSZ
      have hN := (chk_zero h1).2.1
      have hN1 := (chk_zero h1).1
      have e1 : xs = ints (xs.map Int.toNat) := right_ints h3
      have hS0 : 0 < (szL xs).length := by rw [e1]; exact szL_pos (e1 ▸ h3) (by rw [List.length_map]; omega)
      have hS1 : (szL xs).length ≤ 1024 := Nat.le_trans (szL_length _) (by omega)
      obtain ⟨S, HS⟩ := named (szL xs)
      rw [HS.out] at HSZ hS0 hS1 h6
      clear hb0 hr hi hj h0 h3 e1 h2 h1
      generalize hp : w.heap.size = p at *
      obtain ⟨⟨c0, c1⟩, _⟩ := two_cells hg
      go_enter Try.func20, Try.ntmps20
      go_wp2_with fail
      generalize hW : w.alloc (.cells #[.int .i64 N, .slice a l.length cap] 24) = W at *
      clear hW
      refine HSZ.out.mono ?_
      rintro e w1 ⟨v1, c1', S', rfl, hown1, rfl, hb1⟩
      have HB1 : Hid (Below p w w1) := HB0.out.trans (hb1.mono hwz)
      have hp1 : p ≤ w1.heap.size := Nat.le_trans hwz hb1.size
      have HII := Lib.hid (own_ints hown1 rfl)
      clear hown1 hb1 HSZ hg c0 c1
      go_wp2_with fail
      refine (max_any _ S' c1' w1 hS0 hS1 HII.out).mono ?_
      rintro e w2 ⟨rfl, hb2⟩
      have HB2 : Hid (Below p w w2) := HB1.out.trans (hb2.mono hp1)
      have hm' : bd < ((mxL S' (S'.length - 1) : Nat) : Int) := by omega
      generalize mxL S' (S'.length - 1) = mx at *
      clear hb2 h6
      go_wp2_with fail
      go_ret2
      exact ⟨none, 0, [], rfl, World.ownsRow_nil _ _ _ _, HJR, HB2.out⟩
  · have hj : jnE N l xs bd = ckE N l xs bd := by unfold jnE; rw [if_pos h0]
    have HJR : Hid (JnR N l xs bd []) := ⟨fun h7 => absurd (hj.symm.trans h7) h0, fun _ => rfl⟩
    rw [hj]
    have hb0 : Below w.heap.size w (w.alloc (.cells #[.int .i64 N, .slice a l.length cap] 24)) := (Below.refl _ _).alloc (Nat.le_refl _) _
    have hg := heap_top w (.cells #[.int .i64 N, .slice a l.length cap] 24)
    have HB0 := Lib.hid hb0
    have hwz : w.heap.size ≤ (w.alloc (.cells #[.int .i64 N, .slice a l.length cap] 24)).heap.size := hb0.size
    have HSZ := Lib.hid (scheck_any N a l cap b xs bc bd (w.alloc (.cells #[.int .i64 N, .slice a l.length cap] 24)) hl hx (hr.on hb0) (hi.on hb0))
    rw [if_neg h0] at HSZ
    clear hj
    obtain ⟨E, HE⟩ := named (ckE N l xs bd)
    rw [HE.out] at HSZ h0 ⊢
    clear hb0 hr hi
    generalize hp : w.heap.size = p at *
    obtain ⟨⟨c0, c1⟩, _⟩ := two_cells hg
    go_enter Try.func20, Try.ntmps20
    go_wp2_with fail
    generalize hW : w.alloc (.cells #[.int .i64 N, .slice a l.length cap] 24) = W at *
    clear hW
    refine HSZ.out.mono ?_
    rintro e w1 ⟨v1, c1', S', rfl, hown1, rfl, hb1⟩
    have HB1 : Hid (Below p w w1) := HB0.out.trans (hb1.mono hwz)
    have e1 : (E != 0) = true := by simpa using h0
    clear hown1 hb1 HSZ hg c0 c1
    go_wp2_with fail
    go_ret2
    exact ⟨none, 0, [], rfl, World.ownsRow_nil _ _ _ _, HJR, HB1.out⟩
end Go.Proofs.Ytchfccbneedejaa
namespace Go.Proofs.Ytchfccbneedejaa
open Go.RowKit
def wl : List A := [⟨0, 1, 0⟩, ⟨1, 2, 0⟩, ⟨2, 3, 0⟩, ⟨3, 4, 0⟩]
def wP : List Pr := [⟨0, 1⟩, ⟨1, 2⟩, ⟨2, 3⟩, ⟨3, 4⟩]
theorem wl_prl : prl wl = wP := by
  refine sorted_one (prl_sorted wl) ?_ (fun x => ?_)
  · simp [ltP, wP]
  · rw [prl_mem (by decide)]
    obtain ⟨a, b⟩ := x
    simp only [nr, wl, wP, List.any_cons, List.any_nil, Bool.or_false, Bool.or_eq_true, Bool.and_eq_true, beq_iff_eq, List.mem_cons, Pr.mk.injEq, List.not_mem_nil, or_false]
    omega
instance (P : List Pr) (L : List Nat) (B a b : Nat) : Decidable (Fit P L B a b) := by unfold Fit; exact inferInstance
instance (n a b m c d : Nat) : Decidable (noWorse n a b m c d) := by unfold noWorse; exact inferInstance
theorem Bst.of {P : List Pr} {L : List Nat} {B a b : Nat} (hP : PIn P L.length) (h : Fit P L B a b) (h2 : ∀ c, c ∈ L → ∀ d, d ∈ L → Fit P L B c d → noWorse (bw P L a b) a b (bw P L c d) c d) : Bst P L B a b :=
  ⟨h, fun c d hf => h2 c (hf.mem hP).1 d (hf.mem hP).2 hf⟩
theorem noFit {P : List Pr} {L : List Nat} {B : Nat} (hP : PIn P L.length) (h : ∀ c, c ∈ L → ∀ d, d ∈ L → ¬ Fit P L B c d) : ∀ a b, ¬ Fit P L B a b := fun a b hf => h a (hf.mem hP).1 b (hf.mem hP).2 hf
theorem wP_in : PIn wP 5 := by unfold PIn; decide
theorem wl_join : Jn (prl wl) 2 [0, 1, 2, 3, 4] [0, 0, 2, 2, 4] := by
  rw [wl_prl]
  refine .step (a := 0) (b := 1) (Bst.of wP_in (by decide) (by decide)) ?_
  refine .step (L := [0, 0, 2, 3, 4]) (a := 2) (b := 3) (Bst.of wP_in (by decide) (by decide)) ?_
  exact .stop (L := [0, 0, 2, 2, 4]) (noFit wP_in (by decide))
theorem wl_chk : chkE 5 wl = 0 := by decide
theorem wl_ckA : ckE 5 wl [0, 0, 0, 0, 0] 2 = 0 := by decide
theorem wl_jnE : jnE 5 wl [0, 1, 2, 3, 4] 2 = 0 := by decide
theorem wl_tdL : tdL [0, 0, 2, 2, 4] = [0, 0, 1, 1, 2] := by decide
theorem wl_JnR {E : List Nat} (h : JnR 5 wl [0, 1, 2, 3, 4] 2 E) : E = [0, 0, 1, 1, 2] := by
  obtain ⟨F, hF, rfl⟩ := h.1 wl_jnE
  have : [0, 0, 2, 2, 4] = F := wl_join.one hF
  rw [← this]
  exact wl_tdL
theorem wl_cuL : cuL wl [0, 0, 0, 0, 0] 2 = [0, 0, 1, 1, 2] := by decide +kernel
end Go.Proofs.Ytchfccbneedejaa
namespace Go.Proofs.Ytchfccbneedejaa
open Go.RowKit
theorem ints_block {w : World} {b : Nat} {xs : List Int} {t : TypeId} (h : w.heap[b]? = some (.cells (cellsI xs).toArray t (0, 0))) : Ints w (some ⟨b, 0, none⟩) xs := by
  by_cases h0 : xs = []
  · exact .inl h0
  · refine .inr ⟨b, 0, rfl, lt_of_block h, fun j hj => ?_⟩
    simp [World.cell?, h, cellsI, List.getD, hj]
theorem wl_arcs {w : World} {b : Nat} (h : w.heap[b]? = some (.cells #[.int .i64 0, .int .i64 1, .int .u32 0, .int .i64 1, .int .i64 2, .int .u32 0, .int .i64 2, .int .i64 3, .int .u32 0, .int .i64 3, .int .i64 4, .int .u32 0] 49)) : Arcs w (some ⟨b, 0, none⟩) wl := by
  refine .inr ⟨b, 0, rfl, lt_of_block h, fun j hj => ?_⟩
  have hj : j = 0 ∨ j = 1 ∨ j = 2 ∨ j = 3 := by have : wl.length = 4 := rfl; omega
  rcases hj with rfl | rfl | rfl | rfl <;> exact ⟨by simp [World.cell?, h]; rfl, by simp [World.cell?, h]; rfl, by simp [World.cell?, h]; rfl⟩
set_option maxRecDepth 100000 in
set_option maxHeartbeats 1600000 in
theorem works_any (w : World) : Calls Try.prog 9 #[] w fun e w' => e = .returned (.bool true) ∧ Below w.heap.size w w' := by
  have hA0 := (Below.heap_alloc (w.alloc (.cells #[.int .i64 0, .int .i64 1, .int .u32 0, .int .i64 1, .int .i64 2, .int .u32 0, .int .i64 2, .int .i64 3, .int .u32 0, .int .i64 3, .int .i64 4, .int .u32 0] 49)) (.cells #[.int .i64 5, .slice (some ⟨w.heap.size, 0, none⟩) 4 4] 24) w.heap.size (by simp)).trans (heap_top w (.cells #[.int .i64 0, .int .i64 1, .int .u32 0, .int .i64 1, .int .i64 2, .int .u32 0, .int .i64 2, .int .i64 3, .int .u32 0, .int .i64 3, .int .i64 4, .int .u32 0] 49))
  have hG0 := heap_top (w.alloc (.cells #[.int .i64 0, .int .i64 1, .int .u32 0, .int .i64 1, .int .i64 2, .int .u32 0, .int .i64 2, .int .i64 3, .int .u32 0, .int .i64 3, .int .i64 4, .int .u32 0] 49)) (.cells #[.int .i64 5, .slice (some ⟨w.heap.size, 0, none⟩) 4 4] 24)
  rw [World.size_alloc] at hG0
  have hB0 : Below w.heap.size w ((w.alloc (.cells #[.int .i64 0, .int .i64 1, .int .u32 0, .int .i64 1, .int .i64 2, .int .u32 0, .int .i64 2, .int .i64 3, .int .u32 0, .int .i64 3, .int .i64 4, .int .u32 0] 49)).alloc (.cells #[.int .i64 5, .slice (some ⟨w.heap.size, 0, none⟩) 4 4] 24)) := ((Below.refl _ w).alloc (Nat.le_refl _) _).alloc (by simp) _
  generalize hp : w.heap.size = p at *
  have HAR := Lib.hid (wl_arcs hA0)
  have HG0 := Lib.hid hG0
  have HB0 := Lib.hid hB0
  obtain ⟨⟨g0, g1⟩, _⟩ := two_cells hG0
  clear hA0 hG0 hB0
  go_enter Try.func9, Try.ntmps9
  generalize hW : (w.alloc (.cells #[.int .i64 0, .int .i64 1, .int .u32 0, .int .i64 1, .int .i64 2, .int .u32 0, .int .i64 2, .int .i64 3, .int .u32 0, .int .i64 3, .int .i64 4, .int .u32 0] 49)).alloc (.cells #[.int .i64 5, .slice (some ⟨p, 0, none⟩) 4 4] 24) = W at *
  have HBX : Hid (Below W.heap.size W (W.alloc (.cells #[.int .i64 0, .int .i64 0, .int .i64 0, .int .i64 0, .int .i64 0] 3))) := (Below.refl _ _).alloc (Nat.le_refl _) _
  have HN0 : Hid (Ints (W.alloc (.cells #[.int .i64 0, .int .i64 0, .int .i64 0, .int .i64 0, .int .i64 0] 3)) (some ⟨W.heap.size, 0, none⟩) [0, 0, 0, 0, 0]) := ints_block (heap_top W _)
  go_wp2_with fail
  clear hW g0 g1
  have HCU := Lib.hid (cutUp_any 5 (some ⟨p, 0, none⟩) wl 4 (some ⟨W.heap.size, 0, none⟩) [0, 0, 0, 0, 0] 5 2 (W.alloc (.cells #[.int .i64 0, .int .i64 0, .int .i64 0, .int .i64 0, .int .i64 0] 3)) (by decide) (by decide) (HAR.out.on HBX.out) HN0.out)
  rw [wl_ckA, if_pos rfl] at HCU
  have hpW : p + 1 < W.heap.size := lt_of_block HG0.out
  refine HCU.out.mono ?_
  rintro e w1 ⟨v1, c1, P1, rfl, hown1, hP1, hb1⟩
  have hP1 : P1 = [0, 0, 1, 1, 2] := hP1.trans wl_cuL
  subst hP1
  have HW1 : Hid (Below W.heap.size W w1) := HBX.out.trans (hb1.mono HBX.out.size)
  have HI1 := Lib.hid (ints_own (xs := [0, 0, 1, 1, 2]) hown1)
  have hG1 := (HW1.out.block (p + 1) hpW).trans HG0.out
  obtain ⟨⟨g0, g1⟩, _⟩ := two_cells hG1
  have HA1 := Lib.hid (HAR.out.on HW1.out)
  have HB1 : Hid (Below p w w1) := HB0.out.trans (HW1.out.mono (by omega))
  clear hown1 hb1 HCU HBX HN0 hG1
  have HBX : Hid (Below w1.heap.size w1 (w1.alloc (.cells #[.int .i64 0, .int .i64 1, .int .i64 2, .int .i64 3, .int .i64 4] 3))) := (Below.refl _ _).alloc (Nat.le_refl _) _
  have HN0 : Hid (Ints (w1.alloc (.cells #[.int .i64 0, .int .i64 1, .int .i64 2, .int .i64 3, .int .i64 4] 3)) (some ⟨w1.heap.size, 0, none⟩) [0, 1, 2, 3, 4]) := ints_block (heap_top w1 _)
  have HJO := Lib.hid (join_all 5 (some ⟨p, 0, none⟩) wl 4 (some ⟨w1.heap.size, 0, none⟩) [0, 1, 2, 3, 4] 5 2 (w1.alloc (.cells #[.int .i64 0, .int .i64 1, .int .i64 2, .int .i64 3, .int .i64 4] 3)) (by decide) (by decide) (HA1.out.on HBX.out) HN0.out)
  rw [wl_jnE] at HJO
  go_wp2_with fail
  refine HJO.out.mono ?_
  rintro e w2 ⟨v2, c2, P2, rfl, hown2, hP2, hb2⟩
  have hP2 : P2 = [0, 0, 1, 1, 2] := wl_JnR hP2.out
  subst hP2
  have HW2 : Hid (Below w1.heap.size w1 w2) := HBX.out.trans (hb2.mono HBX.out.size)
  have HI2 := Lib.hid (ints_own (xs := [0, 0, 1, 1, 2]) hown2)
  have HI1' := Lib.hid (HI1.out.on HW2.out)
  have hp1 : p ≤ w1.heap.size := by have := HB1.out.size; omega
  have HB2 : Hid (Below p w w2) := HB1.out.trans (HW2.out.mono hp1)
  clear hown2 hb2 HJO HBX HN0 g0 g1 HI1
  have HX2 : Hid (Below w2.heap.size w2 (w2.alloc (.cells #[.int .i64 0, .int .i64 0, .int .i64 1, .int .i64 1, .int .i64 2] 3))) := (Below.refl _ _).alloc (Nat.le_refl _) _
  have HN2 : Hid (Ints (w2.alloc (.cells #[.int .i64 0, .int .i64 0, .int .i64 1, .int .i64 1, .int .i64 2] 3)) (some ⟨w2.heap.size, 0, none⟩) [0, 0, 1, 1, 2]) := ints_block (heap_top w2 _)
  have hp2 : p ≤ w2.heap.size := Nat.le_trans hp1 HW2.out.size
  go_wp2_with fail
  refine (sameInts_any v1 (some ⟨w2.heap.size, 0, none⟩) c1 5 [0, 0, 1, 1, 2] _ (by decide) (HI1'.out.on HX2.out) HN2.out).mono ?_
  rintro e w3 ⟨rfl, hb3⟩
  have HW3 : Hid (Below w2.heap.size w2 w3) := HX2.out.trans (hb3.mono HX2.out.size)
  have HB3 : Hid (Below p w w3) := HB2.out.trans (HW3.out.mono hp2)
  have HI3 := Lib.hid (HI2.out.on HW3.out)
  have hp3 : p ≤ w3.heap.size := Nat.le_trans hp2 HW3.out.size
  clear hb3 HX2 HN2 HI2 HI1'
  have HX3 : Hid (Below w3.heap.size w3 (w3.alloc (.cells #[.int .i64 0, .int .i64 0, .int .i64 1, .int .i64 1, .int .i64 2] 3))) := (Below.refl _ _).alloc (Nat.le_refl _) _
  have HN3 : Hid (Ints (w3.alloc (.cells #[.int .i64 0, .int .i64 0, .int .i64 1, .int .i64 1, .int .i64 2] 3)) (some ⟨w3.heap.size, 0, none⟩) [0, 0, 1, 1, 2]) := ints_block (heap_top w3 _)
  go_wp2_with fail
  refine (sameInts_any v2 (some ⟨w3.heap.size, 0, none⟩) c2 5 [0, 0, 1, 1, 2] _ (by decide) (HI3.out.on HX3.out) HN3.out).mono ?_
  rintro e w4 ⟨rfl, hb4⟩
  have HB4 : Hid (Below p w w4) := HB3.out.trans ((HX3.out.trans (hb4.mono HX3.out.size)).mono hp3)
  clear hb4
  go_wp2_with fail
  go_ret
  exact ⟨rfl, HB4.out⟩
end Go.Proofs.Ytchfccbneedejaa
namespace Go.Proofs.Ytchfccbneedejaa
open Go.RowKit
/-- The arcs of a slice lie so in memory, below B. -/
def ArcsB (B : Nat) (w : World) (a : Option Addr) (l : List A) : Prop :=
  l = [] ∨ ∃ b o, a = some ⟨b, o, none⟩ ∧ b < B ∧ ∀ j, j < l.length → (l.getD j A.zero).at w b (o + j * 3)
theorem A.at.onB {x : A} {w w' : World} {b o B : Nat} (h : x.at w b o) (hl : b < B) (hb : Below B w w') : x.at w' b o :=
  ⟨(hb.cell hl).trans h.1, (hb.cell (p := ⟨b, o + 1, none⟩) hl).trans h.2.1, (hb.cell (p := ⟨b, o + 2, none⟩) hl).trans h.2.2⟩
theorem ArcsB.on {B : Nat} {w w' : World} {a : Option Addr} {l : List A} (h : ArcsB B w a l) (hb : Below B w w') : ArcsB B w' a l := by
  rcases h with h | ⟨b, o, rfl, hl, hc⟩
  · exact Or.inl h
  · exact Or.inr ⟨b, o, rfl, hl, fun j hj => (hc j hj).onB hl hb⟩
theorem ArcsB.up {B B' : Nat} {w : World} {a : Option Addr} {l : List A} (h : ArcsB B w a l) (hb : B ≤ B') : ArcsB B' w a l := by
  rcases h with h | ⟨b, o, rfl, hl, hc⟩
  · exact Or.inl h
  · exact Or.inr ⟨b, o, rfl, Nat.lt_of_lt_of_le hl hb, hc⟩
theorem Arcs.b {w : World} {a : Option Addr} {l : List A} (h : Arcs w a l) : ArcsB w.heap.size w a l := h
theorem ArcsB.a {B : Nat} {w : World} {a : Option Addr} {l : List A} (h : ArcsB B w a l) (hb : B ≤ w.heap.size) : Arcs w a l := h.up hb
theorem ArcsB.get {B : Nat} {w : World} {a : Option Addr} {l : List A} (h : ArcsB B w a l) : ∃ b o, 0 < l.length → a = some ⟨b, o, none⟩ ∧ b < B ∧ ∀ j, j < l.length → (l.getD j A.zero).at w b (o + j * 3) := by
  rcases h with rfl | ⟨b, o, h⟩
  · exact ⟨0, 0, fun h => absurd h (by simp)⟩
  · exact ⟨b, o, fun _ => h⟩
theorem info53 : (Try.prog.info? 49).map (fun i => (i.zero, i.size, i.bytes)) = some (some (.agg #[.int .i64 0, .int .i64 0, .int .u32 0]), 3, 24) := by kernel_rfl
/-- Arcs as cells. -/
def cellsA : List A → List Value
  | [] => []
  | x :: r => .int .i64 x.f :: .int .i64 x.t :: .int .u32 x.w :: cellsA r
theorem cellsA_len : ∀ l : List A, (cellsA l).length = l.length * 3
  | [] => rfl
  | x :: r => by simp only [cellsA, List.length_cons, cellsA_len r]; omega
theorem cellsA_append : ∀ l m : List A, cellsA (l ++ m) = cellsA l ++ cellsA m
  | [], _ => rfl
  | x :: r, m => by simp only [cellsA, List.cons_append, cellsA_append r m]
theorem cellsA_at : ∀ (l : List A) (j : Nat), j < l.length → (cellsA l)[j * 3]? = some (.int .i64 (l.getD j A.zero).f) ∧ (cellsA l)[j * 3 + 1]? = some (.int .i64 (l.getD j A.zero).t) ∧ (cellsA l)[j * 3 + 2]? = some (.int .u32 (l.getD j A.zero).w)
  | [], _, h => absurd h (by simp)
  | x :: r, 0, _ => ⟨rfl, rfl, rfl⟩
  | x :: r, j + 1, h => by
    have := cellsA_at r j (by simpa using h)
    rw [show (j + 1) * 3 = j * 3 + 3 by omega]
    exact this
theorem cellsA_one : ∀ (l : List A), ∀ u ∈ cellsA l, u.oneCell' = true
  | [], u, h => by cases h
  | x :: r, u, h => by
    simp only [cellsA, List.mem_cons] at h
    rcases h with rfl | rfl | rfl | h
    · rfl
    · rfl
    · rfl
    · exact cellsA_one r u h
theorem cellsA_set : ∀ (l : List A) (j : Nat) (v : Int), j < l.length →
    (cellsA l).set (j * 3) (.int .i64 v) = cellsA (l.set j ⟨v, (l.getD j A.zero).t, (l.getD j A.zero).w⟩) ∧
    (cellsA l).set (j * 3 + 1) (.int .i64 v) = cellsA (l.set j ⟨(l.getD j A.zero).f, v, (l.getD j A.zero).w⟩) ∧
    (cellsA l).set (j * 3 + 2) (.int .u32 v) = cellsA (l.set j ⟨(l.getD j A.zero).f, (l.getD j A.zero).t, v⟩)
  | [], _, _, h => absurd h (by simp)
  | x :: r, 0, v, _ => ⟨rfl, rfl, rfl⟩
  | x :: r, j + 1, v, h => by
    have := cellsA_set r j v (by simpa using h)
    rw [show (j + 1) * 3 = j * 3 + 3 by omega]
    exact ⟨congrArg (fun t => Value.int .i64 x.f :: Value.int .i64 x.t :: Value.int .u32 x.w :: t) this.1, congrArg (fun t => Value.int .i64 x.f :: Value.int .i64 x.t :: Value.int .u32 x.w :: t) this.2.1, congrArg (fun t => Value.int .i64 x.f :: Value.int .i64 x.t :: Value.int .u32 x.w :: t) this.2.2⟩
theorem cells_of_at {w : World} {b o : Nat} : ∀ (l : List A) (p : Nat), (∀ j, j < l.length → (l.getD j A.zero).at w b (o + (p + j) * 3)) → ∀ i u, (cellsA l)[i]? = some u → w.cell? ⟨b, o + p * 3 + i, none⟩ = some u
  | [], _, _, i, u, h => by simp [cellsA] at h
  | x :: r, p, ha, i, u, h => by
    have h0 := ha 0 (by simp)
    simp only [Nat.add_zero] at h0
    match i, h with
    | 0, h => simp [cellsA] at h; subst h; exact h0.1
    | 1, h => simp [cellsA] at h; subst h; exact h0.2.1
    | 2, h => simp [cellsA] at h; subst h; exact h0.2.2
    | i + 3, h =>
      have := cells_of_at r (p + 1) (fun j hj => by have := ha (j + 1) (by simpa using hj); rw [show p + (j + 1) = p + 1 + j by omega] at this; exact this) i u (by simpa [cellsA] using h)
      rw [show o + p * 3 + (i + 3) = o + (p + 1) * 3 + i by omega]
      exact this
/-- A row of arcs of our own. -/
def OwnA (w : World) (B : Nat) (a : Option Addr) (c : Nat) (l : List A) : Prop := w.ownsRow B 49 3 (.slice a l.length c) l.length (cellsA l)
theorem OwnA.some {w : World} {B : Nat} {a : Option Addr} {c : Nat} {l : List A} (h : OwnA w B a c l) (h0 : 0 < l.length) : ∃ g, a = some ⟨g, 0, none⟩ ∧ B ≤ g ∧ g < w.heap.size := by
  rcases h.2 with ⟨_, h'⟩ | ⟨g, c', cur, h', hb, hg, _⟩
  · omega
  · injection h' with e1 e2 e3
    exact ⟨g, e1, hb, lt_of_block hg⟩
theorem OwnA.at {w : World} {B g c : Nat} {l : List A} (h : OwnA w B (.some ⟨g, 0, none⟩) c l) (j : Nat) (hj : j < l.length) : (l.getD j A.zero).at w g (j * 3) := by
  obtain ⟨h1, h2, h3⟩ := cellsA_at l j hj
  exact ⟨(World.ownsRow.cellAt h (j * 3) (by omega)).trans h1, (World.ownsRow.cellAt h (j * 3 + 1) (by omega)).trans h2, (World.ownsRow.cellAt h (j * 3 + 2) (by omega)).trans h3⟩
theorem OwnA.arcs {w : World} {B : Nat} {a : Option Addr} {c : Nat} {l : List A} (h : OwnA w B a c l) : Arcs w a l := by
  by_cases h0 : 0 < l.length
  · obtain ⟨g, rfl, _, hg⟩ := h.some h0
    exact Or.inr ⟨g, 0, rfl, hg, fun j hj => by rw [Nat.zero_add]; exact h.at j hj⟩
  · exact Or.inl (List.eq_nil_of_length_eq_zero (by omega))
theorem OwnA.alloc {w : World} {B : Nat} {a : Option Addr} {c : Nat} {l : List A} (h : OwnA w B a c l) (o : Obj) : OwnA (w.alloc o) B a c l := World.ownsRow.alloc h o
theorem OwnA.on {w w' : World} {B : Nat} {a : Option Addr} {c : Nat} {l : List A} (h : OwnA w B a c l) (hb : Below w.heap.size w w') : OwnA w' B a c l := by
  refine ⟨h.1, ?_⟩
  rcases h.2 with h' | ⟨g, c', cur, h1, h2, h3, h4⟩
  · exact Or.inl h'
  · exact Or.inr ⟨g, c', cur, h1, h2, (hb.block g (lt_of_block h3)).trans h3, h4⟩
theorem OwnA.base {w : World} {B B' : Nat} {a : Option Addr} {c : Nat} {l : List A} (h : OwnA w B a c l) (hb : B' ≤ B) : OwnA w B' a c l := own_base h hb
theorem OwnA.nil (w : World) (B : Nat) : OwnA w B none 0 [] := World.ownsRow_nil _ _ _ _
theorem clone_news {w : World} {ad : Addr} {l : List A} (h : Arcs w (some ad) l) (o : Obj) : ∀ j u, (cellsA l)[j]? = some u → (w.alloc o).cell? (ad.add j) = some u := by
  intro j u hu
  rcases h with rfl | ⟨b, q, he, hb, hc⟩
  · simp [cellsA] at hu
  · cases he
    have := cells_of_at (o := q) l 0 (fun j hj => by rw [Nat.zero_add]; exact hc j hj) j u hu
    rw [Go.WideShapes.add_plain, World.cell?_alloc_past _ _ _ hb]
    simpa using this
set_option maxHeartbeats 800000 in
theorem sameGraph_any (N : Int) (a a' : Option Addr) (cap cap' : Nat) (l : List A) (w : World) (hlen : l.length ≤ 9223372036854775807) (hr : Arcs w a l) (hr' : Arcs w a' l) :
    Calls Try.prog 36 #[.agg #[.int .i64 N, .slice a l.length cap], .agg #[.int .i64 N, .slice a' l.length cap']] w fun e w' => e = .returned (.bool true) ∧ Below w.heap.size w w' := by
  have hb0 : Below w.heap.size w ((w.alloc (.cells #[.int .i64 N, .slice a l.length cap] 24)).alloc (.cells #[.int .i64 N, .slice a' l.length cap'] 24)) := ((Below.refl _ _).alloc (Nat.le_refl _) _).alloc (by simp) _
  have hg : ((w.alloc (.cells #[.int .i64 N, .slice a l.length cap] 24)).alloc (.cells #[.int .i64 N, .slice a' l.length cap'] 24)).heap[w.heap.size]? = some (.cells #[.int .i64 N, .slice a l.length cap] 24) := (Below.heap_alloc _ _ _ (by simp)).trans (heap_top w _)
  have h1 := heap_top (w.alloc (.cells #[.int .i64 N, .slice a l.length cap] 24)) (.cells #[.int .i64 N, .slice a' l.length cap'] 24)
  rw [show (w.alloc (.cells #[.int .i64 N, .slice a l.length cap] 24)).heap.size = w.heap.size + 1 by simp] at h1
  generalize hW : (w.alloc (.cells #[.int .i64 N, .slice a l.length cap] 24)).alloc (.cells #[.int .i64 N, .slice a' l.length cap'] 24) = W at *
  obtain ⟨⟨g0, g1⟩, gf0, gf1⟩ := two_cells hg
  obtain ⟨⟨k0, k1⟩, kf0, kf1⟩ := two_cells h1
  have hrW := hr.on hb0
  have hrW' := hr'.on hb0
  obtain ⟨b, o, hab⟩ := hrW.b.get
  obtain ⟨b', o', hab'⟩ := hrW'.b.get
  go_enter Try.func36, Try.ntmps36
  go_wp2_with fail
  go_loopw [5] (fun i wr => ∃ k n : Nat, k ≤ l.length ∧ i = .int .i64 k ∧ wr = W.drewN n) (fun i _ => l.length - (intOf i).toNat)
  case atStart => exact ⟨0, 0, Nat.zero_le _, rfl, rfl⟩
  case round =>
    obtain ⟨k, n, hk, rfl, rfl⟩ := hrel
    by_cases hlt : k < l.length
    · obtain ⟨rfl, _, hc⟩ := hab (by omega)
      obtain ⟨rfl, _, hc'⟩ := hab' (by omega)
      obtain ⟨c0, c1, c2⟩ := hc k hlt
      obtain ⟨d0, d1, d2⟩ := hc' k hlt
      clear hc hc'
      generalize l.getD k A.zero = x at *
      go_wp2_with fail
      go_quiet (fail)
      go_wp2_with fail
      exact ⟨⟨k + 1, _, by omega, by go_num, rfl⟩, by simp [intOf]; omega⟩
    · go_wp2_with fail
      go_ret
      exact ⟨rfl, hb0.trans (below_drewN _ _ _)⟩
end Go.Proofs.Ytchfccbneedejaa
namespace Go.Proofs.Ytchfccbneedejaa
open Go.RowKit
set_option maxHeartbeats 800000 in
theorem rcheck_any (N : Int) (a : Option Addr) (l : List A) (cap : Nat) (w : World) (hl : l.length ≤ 9223372036854775807) (hr : Arcs w a l) :
    Calls Try.prog 26 #[.agg #[.int .i64 N, .slice a l.length cap]] w fun e w' => e = .returned (.tuple #[.int .i64 (chkAt N l), .int .i64 (chkE N l)]) ∧ Below w.heap.size w w' := by
  by_cases h1 : N < 1
  · rw [(chk_range (l := l) (Or.inl h1)).1, (chk_range (l := l) (Or.inl h1)).2]
    go_enter Try.func26, Try.ntmps26
    go_wp2_with fail
    go_ret2
    exact ⟨rfl, (Below.refl _ _).alloc (Nat.le_refl _) _⟩
  by_cases h2 : 1024 < N
  · rw [(chk_range (l := l) (Or.inr h2)).1, (chk_range (l := l) (Or.inr h2)).2]
    go_enter Try.func26, Try.ntmps26
    go_wp2_with fail
    go_ret2
    exact ⟨rfl, (Below.refl _ _).alloc (Nat.le_refl _) _⟩
  have hN : ¬ (N < 1 ∨ 1024 < N) := by omega
  by_cases h3 : 8192 < l.length
  · have h3' : (8192 : Int) < l.length := by omega
    rw [(chk_long hN h3).1, (chk_long hN h3).2]
    clear hN
    go_enter Try.func26, Try.ntmps26
    go_wp2_with fail
    go_ret2
    exact ⟨rfl, (Below.refl _ _).alloc (Nat.le_refl _) _⟩
  have h3' : ¬ (8192 : Int) < l.length := by omega
  have HN := Lib.hid hN
  clear hN
  obtain ⟨E, HE⟩ := named (chkE N l)
  obtain ⟨T, HAT⟩ := named (chkAt N l)
  rw [HE.out, HAT.out]
  have hb0 : Below w.heap.size w (w.alloc (.cells #[.int .i64 N, .slice a l.length cap] 24)) := (Below.refl _ _).alloc (Nat.le_refl _) _
  obtain ⟨b, o, hab⟩ := hr.b.get
  go_enter Try.func26, Try.ntmps26
  go_wp2_with fail
  go_loopw [4] (fun i wr => ∃ k : Nat, k ≤ l.length ∧ i = .int .i64 k ∧ Hid ((l.take k).all (okA N) = true) ∧ wr.heap[w.heap.size]? = some (.cells #[.int .i64 N, .slice a l.length cap] 24) ∧ Below w.heap.size w wr) (fun i _ => l.length - (intOf i).toNat)
  case atStart => exact ⟨0, Nat.zero_le _, rfl, by show _ = _; simp, heap_top w _, hb0⟩
  case round =>
    obtain ⟨k, hk, rfl, hall, hg, hb⟩ := hrel
    obtain ⟨⟨g0, g1⟩, gf0, gf1⟩ := two_cells hg
    have hsz : w.heap.size < wr.heap.size := lt_of_block hg
    by_cases hlt : k < l.length
    · obtain ⟨rfl, hbl, hat⟩ := hab (by omega)
      obtain ⟨c0, c1, c2⟩ := (hat k hlt).onB hbl hb
      have HT := Lib.hid (fun (h : okA N (l.getD k A.zero) = true) => all_take hlt hall.out h)
      have HF := Lib.hid (fun (h : okA N (l.getD k A.zero) = false) => chk_bad HN.out h3 (find_at hlt hall.out h))
      generalize l.getD k A.zero = x at *
      have b3 : Below w.heap.size w (wr.alloc (.cells #[.int .i64 x.f, .int .i64 x.t, .int .u32 x.w] 49)) := hb.alloc (by omega) _
      have hg3 := (Below.heap_alloc wr (.cells #[.int .i64 x.f, .int .i64 x.t, .int .u32 x.w] 49) _ hsz).trans hg
      by_cases q1 : 0 ≤ x.f
      · by_cases q2 : x.f < N
        · by_cases q3 : 0 ≤ x.t
          · by_cases q4 : x.t < N
            · have hA : okA N x = true := by simp [okA, okV, q1, q2, q3, q4]
              go_wp2_with fail
              exact ⟨⟨k + 1, by omega, by go_num, HT.out hA, hg3, b3⟩, by simp [intOf]; omega⟩
            · have hE := HF.out (by simp [okA, okV, q4])
              rw [HE.out, HAT.out] at hE
              obtain ⟨rfl, rfl⟩ := hE
              go_wp2_with fail
              go_ret2
              exact ⟨rfl, b3⟩
          · have hE := HF.out (by simp [okA, okV, q3])
            rw [HE.out, HAT.out] at hE
            obtain ⟨rfl, rfl⟩ := hE
            go_wp2_with fail
            go_ret2
            exact ⟨rfl, b3⟩
        · have hE := HF.out (by simp [okA, okV, q2])
          rw [HE.out, HAT.out] at hE
          obtain ⟨rfl, rfl⟩ := hE
          go_wp2_with fail
          go_ret2
          exact ⟨rfl, b3⟩
      · have hE := HF.out (by simp [okA, okV, q1])
        rw [HE.out, HAT.out] at hE
        obtain ⟨rfl, rfl⟩ := hE
        go_wp2_with fail
        go_ret2
        exact ⟨rfl, b3⟩
    · have hE := chk_ok HN.out h3 (by have := hall.out; rw [List.take_of_length_le (by omega)] at this; exact this)
      rw [HE.out, HAT.out] at hE
      obtain ⟨rfl, rfl⟩ := hE
      go_wp2_with fail
      go_ret2
      exact ⟨rfl, hb⟩
end Go.Proofs.Ytchfccbneedejaa
namespace Go.Proofs.Ytchfccbneedejaa
open Go.RowKit
/-- A right graph that is large. -/
def lgB (N : Int) (l : List A) : Bool := decide (chkE N l = 0) && (decide (60 < N) || decide (300 < l.length))
theorem lgB_true {N : Int} {l : List A} (h : lgB N l = true) : chkE N l = 0 := by
  unfold lgB at h
  rw [Bool.and_eq_true, decide_eq_true_eq] at h
  exact h.1
set_option maxRecDepth 100000 in
theorem large_any (N : Int) (a : Option Addr) (l : List A) (cap : Nat) (w : World) (hl : l.length ≤ 9223372036854775807) (hr : Arcs w a l) :
    Calls Try.prog 8 #[.agg #[.int .i64 N, .slice a l.length cap]] w fun e w' => e = .returned (.bool (lgB N l)) ∧ Below w.heap.size w w' := by
  have hb0 : Below w.heap.size w (w.alloc (.cells #[.int .i64 N, .slice a l.length cap] 24)) := (Below.refl _ _).alloc (Nat.le_refl _) _
  have hg := heap_top w (.cells #[.int .i64 N, .slice a l.length cap] 24)
  have HCH := Lib.hid (rcheck_any N a l cap (w.alloc (.cells #[.int .i64 N, .slice a l.length cap] 24)) hl (hr.on hb0))
  have HB0 := Lib.hid hb0
  have HG := Lib.hid hg
  obtain ⟨⟨c0, c1⟩, _⟩ := two_cells hg
  obtain ⟨V, HV⟩ := named (lgB N l)
  rw [HV.out]
  have HVV : Hid (V = (decide (chkE N l = 0) && (decide (60 < N) || decide (300 < l.length)))) := HV.out.symm
  obtain ⟨E, HE⟩ := named (chkE N l)
  obtain ⟨AT, HAT⟩ := named (chkAt N l)
  rw [HE.out] at HVV HCH
  rw [HAT.out] at HCH
  have hwz : w.heap.size ≤ (w.alloc (.cells #[.int .i64 N, .slice a l.length cap] 24)).heap.size := hb0.size
  have hpW : w.heap.size < (w.alloc (.cells #[.int .i64 N, .slice a l.length cap] 24)).heap.size := by simp
  clear hg hr hb0
  generalize hp : w.heap.size = p at *
  go_enter Try.func8, Try.ntmps8
  go_wp2_with fail
  generalize hW : w.alloc (.cells #[.int .i64 N, .slice a l.length cap] 24) = W at *
  clear hW
  refine HCH.out.mono ?_
  rintro e w1 ⟨rfl, hb1⟩
  have HB1 : Hid (Below p w w1) := HB0.out.trans (hb1.mono hwz)
  obtain ⟨⟨d0, d1⟩, _⟩ := two_cells ((hb1.block p hpW).trans HG.out)
  clear hb1 HCH c0 c1 HG HB0
  by_cases hE : E = 0
  · subst hE
    by_cases h1 : 60 < N
    · obtain rfl : V = true := by rw [HVV.out]; simp [h1]
      go_wp2_with fail
      go_ret
      exact ⟨rfl, HB1.out⟩
    · by_cases h2 : 300 < l.length
      · obtain rfl : V = true := by rw [HVV.out]; simp [h2]
        have h2' : (300 : Int) < l.length := by omega
        go_wp2_with fail
        go_ret
        exact ⟨rfl, HB1.out⟩
      · obtain rfl : V = false := by rw [HVV.out]; simp [h1]; omega
        have h2' : ¬ (300 : Int) < l.length := by omega
        go_wp2_with fail
        go_ret
        refine ⟨?_, HB1.out⟩
        show Ending.returned (Value.bool (decide (60 < N) || decide (300 < (l.length : Int)))) = _
        rw [decide_eq_false (show ¬ 60 < N by omega), decide_eq_false (show ¬ (300 : Int) < (l.length : Int) by omega)]
        rfl
  · obtain rfl : V = false := by rw [HVV.out]; simp [hE]
    have hE' : (E == 0) = false := by simpa using hE
    clear hE
    go_wp2_with fail
    go_ret
    exact ⟨rfl, HB1.out⟩
end Go.Proofs.Ytchfccbneedejaa
namespace Go.Proofs.Ytchfccbneedejaa
open Go.RowKit
set_option maxRecDepth 100000 in
set_option maxHeartbeats 1600000 in
theorem rright_any (n : Nat) (a : Option Addr) (l : List A) (cap : Nat) (b : Option Addr) (xs : List Int) (bc : Nat) (w : World) (hn : n ≤ 1024) (hx : xs.length ≤ 9223372036854775807) (hi : Ints w b xs) :
    Calls Try.prog 53 #[.agg #[.int .i64 n, .slice a l.length cap], .slice b xs.length bc] w fun e w' => e = .returned (.bool (decide (xs.length = n) && tdy xs 0)) ∧ Below w.heap.size w w' := by
  have hb0 : Below w.heap.size w (w.alloc (.cells #[.int .i64 n, .slice a l.length cap] 24)) := (Below.refl _ _).alloc (Nat.le_refl _) _
  have hg := heap_top w (.cells #[.int .i64 n, .slice a l.length cap] 24)
  have HI := Lib.hid (hi.on hb0)
  have hwz : w.heap.size ≤ (w.alloc (.cells #[.int .i64 n, .slice a l.length cap] 24)).heap.size := hb0.size
  have HB0 := Lib.hid hb0
  obtain ⟨V, HV⟩ := named (decide (xs.length = n) && tdy xs 0)
  rw [HV.out]
  obtain ⟨⟨c0, c1⟩, _⟩ := two_cells hg
  clear hb0 hi
  generalize hp : w.heap.size = p at *
  go_enter Try.func53, Try.ntmps53
  by_cases hxn : ¬ xs.length = n
  · have e1 : ((xs.length : Int) != (n : Int)) = true := by simp; omega
    have HF : Hid (V = false) := by show _ = _; rw [← HV.out]; simp [hxn]
    clear hxn
    go_wp2_with fail
    go_ret
    exact ⟨by rw [HF.out]; rfl, HB0.out⟩
  obtain rfl : n = xs.length := by omega
  have e1 : ((xs.length : Int) != (xs.length : Int)) = false := by simp
  have HVT : Hid (V = tdy xs 0) := by show _ = _; rw [← HV.out]; simp
  clear hxn
  go_wp2_with fail
  generalize hW : w.alloc (.cells #[.int .i64 xs.length, .slice a l.length cap] 24) = W at *
  clear hW
  have hpz : p < W.heap.size := lt_of_block hg
  have HTD := Lib.hid (T3.rtidyI_any b xs.length bc xs (ldI xs) W hn (ldI_RT xs) rfl (fun u v _ _ => ldI_iff) HI.out)
  refine HTD.out.mono ?_
  rintro e w2 ⟨rfl, hown2, hb2⟩
  have HB2 : Hid (Below p w w2) := HB0.out.trans (hb2.mono hwz)
  have hg2 := (hb2.block p hpz).trans hg
  have HG2 := Lib.hid hg2
  have HI2 := Lib.hid (HI.out.on hb2)
  have HO2 := Lib.hid hown2
  have HTI := Lib.hid (tdy_iff xs)
  obtain ⟨ix, ox, hix⟩ := HI2.out.get
  have HIX := Lib.hid hix
  have hz2 : p < w2.heap.size := lt_of_block hg2
  clear hb2 hown2 hg hwz hix c0 c1 HTD hg2
  generalize hq : W.heap.size = q at *
  go_wp2_with fail
  go_loopw [6] (fun i wr => ∃ (k : Nat), k ≤ xs.length ∧ i = .int .i64 k ∧ Hid (∀ j, j < k → xs.getD j 0 = ((T3.lab (ldI xs) j : Nat) : Int)) ∧ Hid (Below w2.heap.size w2 wr)) (fun i _ => xs.length - (intOf i).toNat)
  case atStart => exact ⟨0, Nat.zero_le _, rfl, fun j hj => by omega, Below.refl _ _⟩
  case round =>
    obtain ⟨k, hk, rfl, HJ, HBR⟩ := hrel
    have hgr := (HBR.out.block p hz2).trans HG2.out
    obtain ⟨⟨c0, c1⟩, _⟩ := two_cells hgr
    by_cases hlk : k < xs.length
    · obtain ⟨rfl, hbl, hat⟩ := HIX.out (by omega)
      have hlk' : (k : Int) < xs.length := by omega
      have y0 := (HBR.out.cell (p := ⟨ix, ox + k, none⟩) hbl).trans (hat k hlk)
      have y1 := (HBR.out.cell (p := ⟨q, k, none⟩) HO2.out.lt).trans (HO2.out.cell (T3.labs_len _ _) k hlk)
      rw [T3.labs_getD _ _ k hlk] at y1
      have HBN : ∀ nq, Hid (Below w2.heap.size w2 (wr.drewN nq)) := fun _ => ⟨HBR.out.os, HBR.out.tape, HBR.out.output, HBR.out.size, HBR.out.block⟩
      have HBP : ∀ nq, Hid (Below p w (wr.drewN nq)) := fun nq => HB2.out.trans ((HBN nq).out.mono (by omega))
      clear hat
      by_cases hE : xs.getD k 0 = ((T3.lab (ldI xs) k : Nat) : Int)
      · have HJ2 : Hid (∀ j, j < k + 1 → xs.getD j 0 = ((T3.lab (ldI xs) j : Nat) : Int)) := fun j hj => by
          by_cases e : j = k
          · rw [e]; exact hE
          · exact HJ.out j (by omega)
        rw [hE] at y0
        clear hE HJ
        generalize T3.lab (ldI xs) k = z at *
        have e2 : ((z : Int) != (z : Int)) = false := by simp
        go_wp2_with fail
        go_quiet (fail)
        go_wp2_with fail
        exact ⟨⟨k + 1, by omega, by simp, HJ2, HBN _⟩, by simp [intOf]; omega⟩
      · have HF : Hid (V = false) := by
          show _ = _
          rw [HVT.out, Bool.eq_false_iff]
          intro h
          have h2 := HTI.out.1 h
          refine hE ?_
          have h3 : (T3.ints (T3.labs (ldI xs) xs.length)).getD k 0 = ((T3.lab (ldI xs) k : Nat) : Int) := by rw [T3.ints_getD, T3.labs_getD _ _ k hlk]
          rw [← h3, ← h2]
        have e2 : (((T3.lab (ldI xs) k : Nat) : Int) != xs.getD k 0) = true := by simp; exact fun h => hE h.symm
        clear hE HJ
        generalize T3.lab (ldI xs) k = z at *
        generalize xs.getD k 0 = y at *
        go_wp2_with fail
        go_quiet (fail)
        go_wp2_with fail
        go_ret
        exact ⟨by rw [HF.out]; rfl, (HBP _).out⟩
    · have hlk' : ¬ (k : Int) < xs.length := by omega
      have HF : Hid (V = true) := by
        show _ = _
        rw [HVT.out]
        exact HTI.out.2 (T3.ext_labs rfl (fun j hj => HJ.out j (by omega)))
      have HBP : Hid (Below p w wr) := HB2.out.trans (HBR.out.mono (by omega))
      go_wp2_with fail
      go_ret
      exact ⟨by rw [HF.out]; rfl, HBP.out⟩
set_option maxRecDepth 100000 in
set_option maxHeartbeats 1600000 in
theorem rsize_any (b : Option Addr) (xs : List Int) (bc : Nat) (w : World) (hxl : xs.length ≤ 1024) (hT : tdy xs 0 = true) (hi : Ints w b xs) :
    Calls Try.prog 35 #[.slice b xs.length bc] w fun e w' => ∃ v c, e = .returned (.slice v (szL xs).length c) ∧ w'.ownsRow w.heap.size 3 1 (.slice v (szL xs).length c) (szL xs).length (cellsI (ints (szL xs))) ∧ Below w.heap.size w w' := by
  obtain ⟨i3, hi3, hz3, hs3, hby3⟩ := info_parts info3
  obtain ⟨Z, HZ⟩ := named (szL xs)
  rw [HZ.out]
  obtain ⟨ix, ox, hix⟩ := hi.get
  have HIX := Lib.hid hix
  have HV := Lib.hid hT
  clear hi hix hT
  generalize hp : w.heap.size = p at *
  go_enter Try.func35, Try.ntmps35
  go_wp2_with fail
  go_loopw [3, 4] (fun s6 i wr => ∃ (k : Nat) (av : Option Addr) (cv : Nat) (S : List Nat), k ≤ xs.length ∧ i = .int .i64 k ∧ s6 = .slice av S.length cv ∧ S.length ≤ k ∧ Hid (szL (xs.take k) = S) ∧ Hid (tdy (xs.drop k) S.length = true) ∧ Hid (wr.ownsRow p 3 1 (.slice av S.length cv) S.length (cellsI (ints S))) ∧ Hid (Below p w wr)) (fun _ i _ => xs.length - (intOf i).toNat)
  case atStart => exact ⟨0, none, 0, [], Nat.zero_le _, rfl, rfl, Nat.zero_le _, rfl, HV, World.ownsRow_nil _ _ _ _, Below.refl _ _⟩
  case round =>
    obtain ⟨k, av, cv, S, hk, rfl, rfl, hSk, HS, HK, HOW, HBR⟩ := hrel
    have hwr : p ≤ wr.heap.size := hp ▸ HBR.out.size
    by_cases hlk : k < xs.length
    · obtain ⟨rfl, hbl, hat⟩ := HIX.out (by omega)
      have hlk' : (k : Int) < xs.length := by omega
      have HY0 := Lib.hid ((HBR.out.cell (p := ⟨ix, ox + k, none⟩) (hp ▸ hbl)).trans (hat k hlk))
      have hk2 := HK.out
      rw [drop_getI hlk] at hk2
      simp only [tdy] at hk2
      have HK2 := Lib.hid hk2
      have HSN : Hid (szL (xs.take (k + 1)) = szS S (xs.getD k 0).toNat) := by show _ = _; rw [take_snocI hlk, szL_snoc, HS.out]
      clear hat hk2
      generalize xs.getD k 0 = x at *
      have hx0 : ¬ (x < 0 ∨ (S.length : Int) < x) := fun h => by have h1 := HK2.out; rw [if_pos h] at h1; cases h1
      rw [if_neg hx0] at HK2
      obtain ⟨y, hy⟩ : ∃ y : Nat, x = y := ⟨x.toNat, by omega⟩
      subst hy
      have hyS : y ≤ S.length := by omega
      clear hx0
      rw [Int.toNat_natCast] at HSN
      have y0 := HY0.out
      by_cases h2 : y = S.length
      · subst h2
        have hq : ((S.length : Int) == (S.length : Int)) = true := by simp
        have HNS : Hid (szS S S.length = S ++ [1]) := if_pos rfl
        rw [HNS.out] at HSN
        rw [if_pos rfl] at HK2
        have HK3 : Hid (tdy (xs.drop (k + 1)) (((S ++ [1]).length : Nat) : Int) = true) := by
          have h3 := HK2.out
          rw [show ((S.length : Int) + 1) = (((S ++ [1]).length : Nat) : Int) by rw [List.length_append]; rfl] at h3
          exact h3
        have HNW := Lib.hid (one_new wr 0)
        have HO2 := Lib.hid (HOW.out.alloc (.cells #[.int .i64 0] 3))
        have HBZ : Hid (p ≤ (wr.alloc (.cells #[.int .i64 0] 3)).heap.size) := by show _ ≤ _; rw [World.size_alloc]; omega
        have HBB : Hid (Below p w (wr.alloc (.cells #[.int .i64 0] 3))) := HBR.out.alloc (by omega) _
        have HOL : Hid (∀ b, (Value.slice av S.length cv).ownBlock = some b → p ≤ b) := fun b hb => (HOW.out.lt b hb).1
        have HCA : Hid (cellsI (ints S) ++ [.int .i64 0] = cellsI (ints (S ++ [0]))) := by show _ = _; rw [ints_snoc, ← cellsI_snoc]; rfl
        have hs8 : S.length ≤ 1024 := by omega
        have hblp : ix < p := hp ▸ hbl
        go_wp2_with (at_builtin; refine wpList_append_own _ rfl (.tmp 18) (.tmp 19) 25 rfl p 3 i3 (.int .i64 0) 1 8 Try.underlying25 hi3 hz3 hs3 hby3 rfl (by decide) (.slice av S.length cv) S.length (cellsI (ints S)) rfl HO2.out ⟨wr.heap.size, 0, none⟩ 1 1 [.int .i64 0] rfl rfl HNW.out (one_i64 _) (by unfold maxLen; omega) (by omega) HBZ.out ?_; intro v6 w6 hown6 hgrow6 hnil6; obtain ⟨g6, c6, hv6, _, hc6, _, hm6⟩ := own_shape hown6 (fun e => by have := hnil6.1 e; simp at this); subst hv6; rw [HCA.out] at hown6; have h7 : w6.ownsRow p 3 1 (.slice (some ⟨g6, 0, none⟩) (S ++ [0]).length c6) (S ++ [0]).length (cellsI (ints (S ++ [0]))) := (by rw [List.length_append]; exact hown6); have d1 := own_cellI h7 (k := S.length) (by rw [List.length_append]; simp); have d2 := World.ownsRow.frozenAt h7 S.length; rw [getD_end S 0] at d1; have HO7 := Lib.hid (own_setI h7 S.length 1); have HB6 : Hid (Below p w w6) := HBB.out.grown hgrow6 HBZ.out (fun j hj => HOL.out j hj); have hg6 : p ≤ g6 := (h7.lt g6 rfl).1; have hc6' : ((S.length : Int) + 1) ≤ c6 := (by omega); have z0 := (HB6.out.cell (p := ⟨ix, ox + k, none⟩) hblp).trans ((HBR.out.cell (p := ⟨ix, ox + k, none⟩) hblp).symm.trans HY0.out); clear hown6 hgrow6 hnil6 h7 y0)
        rw [set_end S 0 1] at HO7
        refine ⟨⟨k + 1, some ⟨g6, 0, none⟩, c6, S ++ [1], by omega, by simp, by rw [List.length_append]; rfl, by rw [List.length_append]; simp; omega, HSN, HK3, HO7, Lib.hid (HB6.out.setCell hg6 _)⟩, by simp [intOf]; omega⟩
      · have hq : ((y : Int) == (S.length : Int)) = false := by simp; omega
        have hy : y < S.length := by omega
        have hy' : (y : Int) < S.length := by omega
        have HNS : Hid (szS S y = S.set y (S.getD y 0 + 1)) := if_neg h2
        rw [HNS.out] at HSN
        rw [if_neg (by omega)] at HK2
        have HK3 : Hid (tdy (xs.drop (k + 1)) (((S.set y (S.getD y 0 + 1)).length : Nat) : Int) = true) := by rw [List.length_set]; exact HK2
        obtain ⟨g, cg, hv, hg1, _, _, _⟩ := own_shape HOW.out (fun e => by injection e with _ e2 _; omega)
        injection hv with hv1 _ hv3
        subst hv1 hv3
        have d1 := own_cellI HOW.out hy
        have d2 := World.ownsRow.frozenAt HOW.out y
        have HO7 := Lib.hid (own_setI HOW.out y (S.getD y 0 + 1))
        have hsz : (((S.getD y 0 : Nat) : Int) + 1) ≤ 1000000 := by
          have h3 := szL_le (xs.take k) y
          rw [HS.out, List.length_take] at h3
          omega
        generalize S.getD y 0 = sy at *
        clear h2
        go_wp2_with fail
        refine ⟨⟨k + 1, some ⟨g, 0, none⟩, cv, S.set y (sy + 1), by omega, by simp, by rw [List.length_set], by rw [List.length_set]; omega, HSN, HK3, ?_, Lib.hid (HBR.out.setCell hg1 _)⟩, by simp [intOf]; omega⟩
        exact HO7
    · have e2 : xs.take k = xs := List.take_of_length_le (by omega)
      have hlk' : ¬ (k : Int) < xs.length := by omega
      rw [e2, HZ.out] at HS
      obtain rfl : Z = S := HS.out
      clear e2
      go_wp2_with fail
      go_ret
      exact ⟨av, cv, rfl, HOW.out, HBR.out⟩
set_option maxRecDepth 100000 in
set_option maxHeartbeats 1600000 in
theorem looked_any (N : Int) (a : Option Addr) (l : List A) (cap : Nat) (b : Option Addr) (xs : List Int) (bc : Nat) (bd : Int) (w : World) (hl : l.length ≤ 9223372036854775807) (hx : xs.length ≤ 9223372036854775807) (hr : Arcs w a l) (hi : Ints w b xs) :
    Calls Try.prog 31 #[.agg #[.int .i64 N, .slice a l.length cap], .slice b xs.length bc, .int .i64 bd] w fun e w' => e = .returned (.int .i64 (ckE N l xs bd)) ∧ Below w.heap.size w w' := by
  have hb0 : Below w.heap.size w (w.alloc (.cells #[.int .i64 N, .slice a l.length cap] 24)) := (Below.refl _ _).alloc (Nat.le_refl _) _
  have hg := heap_top w (.cells #[.int .i64 N, .slice a l.length cap] 24)
  have HI := Lib.hid (hi.on hb0)
  have HB0 := Lib.hid hb0
  have hwz : w.heap.size ≤ (w.alloc (.cells #[.int .i64 N, .slice a l.length cap] 24)).heap.size := hb0.size
  have HCK := Lib.hid (rcheck_any N a l cap (w.alloc (.cells #[.int .i64 N, .slice a l.length cap] 24)) hl (hr.on hb0))
  obtain ⟨V, HV⟩ := named (ckE N l xs bd)
  rw [HV.out]
  obtain ⟨E, HE⟩ := named (chkE N l)
  obtain ⟨t, Ht⟩ := named (chkAt N l)
  rw [HE.out, Ht.out] at HCK
  obtain ⟨⟨c0, c1⟩, _⟩ := two_cells hg
  clear hb0 hr hi
  generalize hp : w.heap.size = p at *
  go_enter Try.func31, Try.ntmps31
  go_wp2_with fail
  generalize hW : w.alloc (.cells #[.int .i64 N, .slice a l.length cap] 24) = W at *
  clear hW
  refine HCK.out.mono ?_
  rintro e w1 ⟨rfl, hb1⟩
  have HB1 : Hid (Below p w w1) := HB0.out.trans (hb1.mono hwz)
  have hg1 := (hb1.block p (lt_of_block hg)).trans hg
  have HI1 := Lib.hid (HI.out.on hb1)
  have hwz1 : p ≤ w1.heap.size := Nat.le_trans hwz hb1.size
  clear hb1 HCK c0 c1 hg
  obtain ⟨⟨c0, c1⟩, _⟩ := two_cells hg1
  by_cases hE : E ≠ 0
  · have e1 : (E != 0) = true := by simpa using hE
    obtain rfl : V = E := by rw [← HV.out]; unfold ckE siE; rw [HE.out, if_pos hE, if_pos hE]
    go_wp2_with fail
    go_ret
    exact ⟨rfl, HB1.out⟩
  obtain rfl : E = 0 := by omega
  clear hE
  have hN := chk_zero HE.out
  have hN1 := hN.1
  have hN2 := hN.2.1
  clear hN
  obtain ⟨n, rfl⟩ : ∃ n : Nat, N = (n : Int) := ⟨N.toNat, by omega⟩
  have hn : n ≤ 1024 := by omega
  have HRT := Lib.hid (rright_any n a l cap b xs bc w1 hn hx HI1.out)
  have HVS : Hid (V = if (decide (xs.length = n) && tdy xs 0) = false then 80 else if bd < 1 ∨ 1024 < bd then 1 else 0) := by
    show _ = _
    rw [← HV.out]
    unfold ckE siE szE
    rw [HE.out]
    by_cases h1 : xs.length = n
    · rcases h2 : tdy xs 0 with _ | _ <;> simp [h1]
    · have h1' : ¬ (xs.length : Int) = (n : Int) := by omega
      simp [h1, h1']
  obtain ⟨T, HT⟩ := named (decide (xs.length = n) && tdy xs 0)
  rw [HT.out] at HRT HVS
  go_wp2_with fail
  refine HRT.out.mono ?_
  rintro e w2 ⟨rfl, hb2⟩
  have HB2 : Hid (Below p w w2) := HB1.out.trans (hb2.mono hwz1)
  clear hb2 HRT hg1 c0 c1
  cases T
  · obtain rfl : V = 80 := HVS.out
    go_wp2_with fail
    go_ret
    exact ⟨rfl, HB2.out⟩
  · by_cases h1 : bd < 1
    · obtain rfl : V = 1 := by rw [HVS.out, if_neg (by simp), if_pos (.inl h1)]
      go_wp2_with fail
      go_ret
      exact ⟨rfl, HB2.out⟩
    · by_cases h2 : 1024 < bd
      · obtain rfl : V = 1 := by rw [HVS.out, if_neg (by simp), if_pos (.inr h2)]
        go_wp2_with fail
        go_ret
        exact ⟨rfl, HB2.out⟩
      · obtain rfl : V = 0 := by rw [HVS.out, if_neg (by simp), if_neg (by omega)]
        go_wp2_with fail
        go_ret
        exact ⟨rfl, HB2.out⟩
end Go.Proofs.Ytchfccbneedejaa
