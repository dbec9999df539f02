import Derived.Test.YtaafkpojjdjphaaGreatQAI
import Derived.Shelf.Small.Bits
import Derived.Shelf.Sort.Plain
import Derived.Lib.OwnBridge
open Go.Lib (hid)
set_option maxRecDepth 100000
namespace Go.Proofs.YtaafkpojjdjphaaGreat
open Go.RowKit
def mxA (S : List Nat) (D : List Int) (k : Nat) : A := ⟨S.getD (k / S.length) 0, S.getD (k % S.length) 0, D.getD k 0⟩
def adM (S : List Nat) (D : List Int) (r : List A) : Nat → List A
 | 0 => r
 | k + 1 => rdA (adM S D r k) (mxA S D k)
theorem adM_len (S : List Nat) (D : List Int) (r : List A) : ∀ k, (adM S D r k).length ≤ r.length + k
 | 0 => Nat.le_refl _
 | k + 1 => by have h1 := rdA_len (adM S D r k) (mxA S D k); have h2 := adM_len S D r k; show (rdA _ _).length ≤ _; omega
set_option maxHeartbeats 1600000 in
theorem radm_any (B g n : Nat) (rv : Nat → Value) (r : List A) (S : List Nat) (ib : Nat) (ic : Nat) (D : List Int) (db dq : Nat) (dc : Nat) (w : World) (hR : Rds w B g n rv r) (hB : B ≤ w.heap.size) (hSn : ∀ i, i < S.length → S.getD i 0 < n) (hS8 : S.length ≤ 1024) (hDl : D.length = S.length * S.length) (hD : ∀ k, k < D.length → 0 ≤ D.getD k 0 ∧ D.getD k 0 ≤ N5.Inf) (hrl : r.length ≤ 1099510579200) (hib : ¬ RB g n rv ib) (hdb : ¬ RB g n rv db) (hI : ∀ i, i < S.length → w.cell? ⟨ib, i, none⟩ = some (.int .i64 (S.getD i 0 : Nat))) (hE : ∀ k, k < D.length → w.cell? ⟨db, dq + k, none⟩ = some (.int .u64 (D.getD k 0))) :
  Calls Tryz.prog 136 #[.slice (some ⟨g, 0, none⟩) n n, .slice (some ⟨ib, 0, none⟩) S.length ic, .slice (some ⟨db, dq, none⟩) D.length dc] w fun e w' => e = .returned (.tuple #[]) ∧ ∃ rv', Rds w' B g n rv' (adM S D r D.length) ∧ RdT g n w rv w' rv' := by
 have HI := hid hI
 have HE := hid hE
 have HD := hid hD
 have HSN := hid hSn
 have HR := hid hR
 have hD8 : D.length ≤ 1048576 := by rw [hDl]; exact Nat.mul_le_mul hS8 hS8
 have HDL : Hid (∀ k, k < D.length → k / S.length < S.length ∧ k % S.length < S.length ∧ 0 < S.length) := fun k hk => by
  rw [hDl] at hk
  have h0 : 0 < S.length := Nat.pos_of_ne_zero (fun e => by rw [e] at hk; simp at hk)
  exact ⟨Nat.div_lt_of_lt_mul hk, Nat.mod_lt _ h0, h0⟩
 clear hI hE hD hSn hR hDl
 obtain ⟨m, HM⟩ := named S.length
 rw [HM.out] at HI HSN HDL hS8
 rw [HM.out]
 obtain ⟨dl, HDD⟩ := named D.length
 rw [HDD.out] at HE HD HDL hD8
 rw [HDD.out]
 go_enter Tryz.func136, Tryz.ntmps136
 go_wp2_with fail
 go_loopw [10] (fun i wr => ∃ (k : Nat), k ≤ dl ∧ i = .int .i64 k ∧ Hid (∃ rv', Rds wr B g n rv' (adM S D r k) ∧ RdT g n w rv wr rv')) (fun i _ => dl - (intOf i).toNat)
 case atStart => exact ⟨0, Nat.zero_le _, rfl, rv, HR.out, RdT.refl _ _ _ _⟩
 case round =>
  obtain ⟨k, hk, rfl, HRV⟩ := hrel
  by_cases hlk : k < dl
  ·have hlk' : (k : Int) < dl := by omega
   obtain ⟨rv1, hR1, hT1⟩ := HRV.out
   have hB1 : B ≤ wr.heap.size := Nat.le_trans hB hT1.fr.size
   have y0 := Fr.cell hT1.fr (HE.out k hlk) hdb
   obtain ⟨j0, j1, j2⟩ := HDL.out k hlk
   have i0 := Fr.cell hT1.fr (HI.out _ j0) hib
   have i1 := Fr.cell hT1.fr (HI.out _ j1) hib
   have f0 := HSN.out _ j0
   have hd0 := HD.out k hlk
   have hal := adM_len S D r k
   have HNX : Hid (adM S D r (k + 1) = rdA (adM S D r k) ⟨(S.getD (k / m) 0 : Nat), (S.getD (k % m) 0 : Nat), D.getD k 0⟩) := by
    show rdA (adM S D r k) (mxA S D k) = _
    unfold mxA
    rw [HM.out]
   have HAD := hid (fun W2 (h1 : Rds W2 B g n rv1 (adM S D r k)) (h2 : B ≤ W2.heap.size) => radd_any B g n rv1 (adM S D r k) (S.getD (k / m) 0) (S.getD (k % m) 0 : Nat) (D.getD k 0) W2 h1 f0 hd0 (by omega) h2)
   have e1 : Int.tdiv (k : Int) (m : Int) = ((k / m : Nat) : Int) := by rw [Int.tdiv_eq_ediv_of_nonneg (by omega), ← Int.natCast_ediv]
   have e2 : Int.tmod (k : Int) (m : Int) = ((k % m : Nat) : Int) := by rw [Int.tmod_eq_emod_of_nonneg (by omega), ← Int.natCast_emod]
   have hm0 : ¬ m = 0 := by omega
   obtain ⟨qa, HQA⟩ := named (k / m)
   obtain ⟨qb, HQB⟩ := named (k % m)
   rw [HQA.out] at i0 HNX HAD e1 f0 j0
   rw [HQB.out] at i1 HNX HAD e2 j1
   obtain ⟨x, HX⟩ := named (S.getD qa 0)
   obtain ⟨y, HY⟩ := named (S.getD qb 0)
   obtain ⟨z, HZ⟩ := named (D.getD k 0)
   rw [HX.out] at i0 HNX HAD f0
   rw [HY.out] at i1 HNX HAD
   rw [HZ.out] at y0 HNX HAD hd0
   have e3 : IntKind.i64.wrap (qa : Int) = qa := by rw [IntKind.wrap_i64]; omega
   have e4 : IntKind.i64.wrap (qb : Int) = qb := by rw [IntKind.wrap_i64]; omega
   have j0' : (qa : Int) < m := by omega
   have j1' : (qb : Int) < m := by omega
   obtain ⟨rr, HRN⟩ := named (adM S D r k)
   rw [HRN.out] at HNX HAD hR1
   have HR1 := hid hR1
   have HT1 := hid hT1
   clear hR1 hT1 HRV hal
   go_wp2_with fail
   go_region_law (first | (rw [if_pos (by rfl)]; go_simp; go_at_call 190; refine (HAD.out _ (HR1.out.on (Below.refl _ _).drew) hB1).mono ?_; rintro e w5 ⟨rfl, rv5, hR5, hT5⟩; have HT5 : Hid (RdT g n wr rv1 w5 rv5) := (RdT.on (Below.refl _ _).drew).trans hT5; have HR5 := hid hR5; clear hR5 hT5))
   all_goals
    have HF5 : Hid (∃ rv', Rds w5 B g n rv' (adM S D r (k + 1)) ∧ RdT g n w rv w5 rv') := ⟨rv5, by rw [HNX.out]; exact HR5.out, HT1.out.trans HT5.out⟩
    go_wp2_with fail
    exact ⟨⟨k + 1, hlk, by simp, HF5⟩, by simp [intOf]; omega⟩
  ·have hlk' : ¬ (k : Int) < dl := by omega
   obtain rfl : k = dl := by omega
   go_wp2_with fail
   go_end0
   exact ⟨rfl, HRV.out⟩
def adA (r : List A) (l : List A) : List A := l.foldl rdA r
theorem adA_snoc (r l : List A) (x : A) : adA r (l ++ [x]) = rdA (adA r l) x := by simp [adA]
theorem adA_len : ∀ (l r : List A), (adA r l).length ≤ r.length + l.length
 | [], r => Nat.le_refl _
 | x :: l, r => by
   have h1 := adA_len l (rdA r x)
   have h2 := rdA_len r x
   show (adA (rdA r x) l).length ≤ _
   simp
   omega
set_option maxHeartbeats 1600000 in
theorem rada_any (B g n : Nat) (rv : Nat → Value) (r l : List A) (ab ac : Nat) (w : World) (hR : Rds w B g n rv r) (hB : B ≤ w.heap.size) (hl8 : l.length ≤ 8192) (hl : ∀ k, k < l.length → 0 ≤ (l.getD k A.zero).f ∧ (l.getD k A.zero).f.toNat < n ∧ 0 ≤ (l.getD k A.zero).w ∧ (l.getD k A.zero).w < 4294967296) (hrl : r.length ≤ 1099510579200) (hab : ¬ RB g n rv ab) (hA : Arcs w (some ⟨ab, 0, none⟩) l) :
  Calls Tryz.prog 137 #[.slice (some ⟨g, 0, none⟩) n n, .slice (some ⟨ab, 0, none⟩) l.length ac] w fun e w' => e = .returned (.tuple #[]) ∧ ∃ rv', Rds w' B g n rv' (adA r l) ∧ RdT g n w rv w' rv' := by
 have HAT : Hid (∀ k, k < l.length → w.cell? ⟨ab, k * 3, none⟩ = some (.int .i64 (l.getD k A.zero).f) ∧ w.cell? ⟨ab, k * 3 + 1, none⟩ = some (.int .i64 (l.getD k A.zero).t) ∧ w.cell? ⟨ab, k * 3 + 2, none⟩ = some (.int .u32 (l.getD k A.zero).w)) := fun k hk => by
  rcases hA with h | ⟨b, o, e, _, h⟩
  ·rw [h] at hk; simp at hk
  ·cases e
   have := h k hk
   rw [Nat.zero_add] at this
   exact this
 have HL := hid hl
 have HR := hid hR
 have HTK : Hid (∀ k, k < l.length → adA r (l.take (k + 1)) = rdA (adA r (l.take k)) (l.getD k A.zero)) := fun k hk => by rw [take_snocA hk, adA_snoc]
 have HLN : Hid (∀ k, (adA r (l.take k)).length ≤ r.length + 8192) := fun k => by
  have h1 := adA_len (l.take k) r
  rw [List.length_take] at h1
  omega
 have HT0 : Hid (adA r (l.take 0) = r) := rfl
 have HTL : Hid (adA r (l.take l.length) = adA r l) := by show _ = _; rw [List.take_length]
 clear hA hl hR
 go_enter Tryz.func137, Tryz.ntmps137
 go_wp2_with fail
 go_loopw [8] (fun i wr => ∃ (k : Nat), k ≤ l.length ∧ i = .int .i64 k ∧ Hid (∃ rv', Rds wr B g n rv' (adA r (l.take k)) ∧ RdT g n w rv wr rv')) (fun i _ => l.length - (intOf i).toNat)
 case atStart => exact ⟨0, Nat.zero_le _, rfl, rv, HR.out, RdT.refl _ _ _ _⟩
 case round =>
  obtain ⟨k, hk, rfl, HRV⟩ := hrel
  by_cases hlk : k < l.length
  ·have hlk' : (k : Int) < l.length := by omega
   obtain ⟨rv1, hR1, hT1⟩ := HRV.out
   have hB1 : B ≤ wr.heap.size := Nat.le_trans hB hT1.fr.size
   obtain ⟨x0, x1, x2⟩ := HAT.out k hlk
   have y0 := Fr.cell hT1.fr x0 hab
   have y1 := Fr.cell hT1.fr x1 hab
   have y2 := Fr.cell hT1.fr x2 hab
   obtain ⟨a0, a1, a2, a3⟩ := HL.out k hlk
   have HNX := hid (HTK.out k hlk)
   have hal := HLN.out k
   obtain ⟨rr, HRN⟩ := named (adA r (l.take k))
   rw [HRN.out] at HNX hR1 hal
   generalize l.getD k A.zero = x at *
   obtain ⟨xf, xt, xw⟩ := x
   simp only at a0 a1 a2 a3 y0 y1 y2
   obtain ⟨f, rfl⟩ : ∃ f : Nat, xf = f := ⟨xf.toNat, by omega⟩
   have hf : f < n := by simpa using a1
   have hb1 : Below wr.heap.size wr (wr.alloc (.cells #[.int .i64 f, .int .i64 xt, .int .u32 xw] 109)) := (Below.refl _ _).alloc (Nat.le_refl _) _
   have HAD := hid (radd_any B g n rv1 rr f xt xw _ (hR1.on hb1) hf ⟨a2, by unfold N5.Inf; omega⟩ (by omega) (Nat.le_trans hB1 hb1.size))
   have HT1 : Hid (RdT g n w rv (wr.alloc (.cells #[.int .i64 f, .int .i64 xt, .int .u32 xw] 109)) rv1) := hT1.trans (RdT.on hb1)
   clear x0 x1 x2 hR1 hT1 HRV hb1 a1
   go_wp2_with fail
   refine HAD.out.mono ?_
   rintro e w5 ⟨rfl, rv5, hR5, hT5⟩
   have HF5 : Hid (∃ rv', Rds w5 B g n rv' (adA r (l.take (k + 1))) ∧ RdT g n w rv w5 rv') := ⟨rv5, by rw [HNX.out]; exact hR5, HT1.out.trans hT5⟩
   clear hR5 hT5 y0 y1 y2 HAD
   go_wp2_with fail
   exact ⟨⟨k + 1, hlk, by simp, HF5⟩, by simp [intOf]; omega⟩
  ·have hlk' : ¬ (k : Int) < l.length := by omega
   have e : k = l.length := by omega
   have HF : Hid (∃ rv', Rds wr B g n rv' (adA r l) ∧ RdT g n w rv wr rv') := by
    have := HRV.out
    rw [e, HTL.out] at this
    exact this
   clear e
   go_wp2_with fail
   go_end0
   exact ⟨rfl, HF.out⟩
set_option maxHeartbeats 1600000 in
theorem plBetween_any (N : Int) (a : Option Addr) (l : List A) (cap : Nat) (ba : Option Addr) (bs : List Int) (bc : Nat) (ca : Option Addr) (C : List Cl) (cc : Nat) (lv ce : Int) (w : World) (hl : l.length ≤ 9223372036854775807) (hbl : bs.length ≤ 9223372036854775807) (hr : Arcs w a l) (hi : Ints w ba bs) (hR : Rws w ca C) :
  Calls Tryz.prog 132 #[.agg #[.int .i64 N, .slice a l.length cap, .slice ba bs.length bc, .slice ca C.length cc, .int .i64 lv, .int .i64 ce]] w fun e w' => ∃ v, e = .returned (.tuple #[.slice v (btV N l bs (csl C) lv ce).length (btV N l bs (csl C) lv ce).length, .int .i64 (btE N l bs (csl C) lv ce)]) ∧ RowI w' w.heap.size v (ints (btV N l bs (csl C) lv ce)) ∧ Below w.heap.size w w' := by
 have hg := heap_top w (.cells #[.int .i64 N, .slice a l.length cap, .slice ba bs.length bc, .slice ca C.length cc, .int .i64 lv, .int .i64 ce] 118)
 have hb0 : Below w.heap.size w (w.alloc (.cells #[.int .i64 N, .slice a l.length cap, .slice ba bs.length bc, .slice ca C.length cc, .int .i64 lv, .int .i64 ce] 118)) := (Below.refl _ _).alloc (Nat.le_refl _) _
 obtain ⟨c0, c1, c2, c3, c4, c5⟩ := six_cells hg
 have HC := hid (between_any N a l cap ba bs bc ca C cc lv ce _ hl hbl (hr.on hb0) (hi.on hb0) (hR.on hb0))
 have HB0 := hid hb0
 have hsz : (w.alloc (.cells #[.int .i64 N, .slice a l.length cap, .slice ba bs.length bc, .slice ca C.length cc, .int .i64 lv, .int .i64 ce] 118)).heap.size = w.heap.size + 1 := by simp
 obtain ⟨E, HE⟩ := named (btE N l bs (csl C) lv ce)
 obtain ⟨S, HS⟩ := named (btV N l bs (csl C) lv ce)
 rw [HE.out, HS.out] at HC
 rw [HE.out, HS.out]
 clear hr hi hR hb0 hg
 generalize hp : w.heap.size = p at *
 go_enter Tryz.func132, Tryz.ntmps132
 go_wp2_with fail
 refine HC.out.mono ?_
 rintro e w2 ⟨v, rfl, hr2, hb2⟩
 have HB2 : Hid (Below p w w2) := HB0.out.trans (hb2.mono (by omega))
 have HR2 := hid (hr2.base (C := p) (by omega))
 clear hr2 hb2 HC c0 c1 c2 c3 c4 c5
 go_wp2_with fail
 go_ret2
 exact ⟨v, rfl, HR2.out, HB2.out⟩
def mbB (me : Int) (dn k : Nat) : Bool := epB me && decide (dn = k * k)
theorem fourU_cells {w : World} {g : Nat} {a b c d : Value} {t : TypeId} (h : w.heap[g]? = some (.cells #[a, b, c, d] t)) : w.cell? ⟨g, 0, none⟩ = some a ∧ w.cell? ⟨g, 1, none⟩ = some b ∧ w.cell? ⟨g, 2, none⟩ = some c ∧ w.cell? ⟨g, 3, none⟩ = some d := by
 simp [World.cell?, h]
set_option maxHeartbeats 1600000 in
theorem mayBe_any (ml mc me : Int) (da : Option Addr) (dn dc : Nat) (ia : Option Addr) (k ic : Nat) (w : World) (hk : k * k ≤ 9223372036854775807) : Calls Tryz.prog 77 #[.agg #[.int .i64 ml, .int .i64 mc, .int .i64 me, .slice da dn dc], .slice ia k ic] w fun e w' => e = .returned (.bool (mbB me dn k)) ∧ Below w.heap.size w w' := by
 have hg := heap_top w (.cells #[.int .i64 ml, .int .i64 mc, .int .i64 me, .slice da dn dc] 40)
 have hb0 : Below w.heap.size w (w.alloc (.cells #[.int .i64 ml, .int .i64 mc, .int .i64 me, .slice da dn dc] 40)) := (Below.refl _ _).alloc (Nat.le_refl _) _
 obtain ⟨c0, c1, c2, c3⟩ := fourU_cells hg
 have HE := hid (isEpoch_any me (w.alloc (.cells #[.int .i64 ml, .int .i64 mc, .int .i64 me, .slice da dn dc] 40)))
 have HB0 := hid hb0
 clear hg hb0
 obtain ⟨mm, emm⟩ : ∃ mm : Nat, mm = k * k := ⟨_, rfl⟩
 have ew : IntKind.i64.wrap ((k : Int) * k) = (mm : Int) := by
  have e : ((k : Int) * k) = (mm : Int) := by rw [emm]; simp
  rw [e, IntKind.wrap_i64]; omega
 unfold mbB
 rw [← emm]
 clear emm hk
 obtain ⟨E, HEP⟩ := named (epB me)
 rw [HEP.out] at HE
 rw [HEP.out]
 generalize hp : w.heap.size = p at *
 rcases E with _ | _
 ·go_enter Tryz.func77, Tryz.ntmps77
  go_wp2_with fail
  refine HE.out.mono ?_
  rintro e w2 ⟨rfl, rfl⟩
  go_wp2_with fail
  go_ret
  exact ⟨rfl, HB0.out⟩
 ·go_enter Tryz.func77, Tryz.ntmps77
  go_wp2_with fail
  refine HE.out.mono ?_
  rintro e w2 ⟨rfl, rfl⟩
  go_wp2_with fail
  go_ret
  refine ⟨?_, HB0.out⟩
  simp only [Bool.true_and]
  have e3 : ((dn : Int) == (mm : Int)) = decide (dn = mm) := by
   rw [Bool.eq_iff_iff, beq_iff_eq, decide_eq_true_iff]; omega
  rw [e3]
  rfl
def hsB (lv ce ml mc me : Int) (dn k : Nat) : Bool := decide (ml = lv) && (decide (mc = ce) && mbB me dn k)
set_option maxHeartbeats 1600000 in
theorem plHas_any (N : Int) (a : Option Addr) (l : List A) (cap : Nat) (ba : Option Addr) (bs : List Int) (bc : Nat) (ca : Option Addr) (C : List Cl) (cc : Nat) (lv ce : Int) (ml mc me : Int) (da : Option Addr) (dn dc : Nat) (ia : Option Addr) (k ic : Nat) (w : World) (hk : k * k ≤ 9223372036854775807) : Calls Tryz.prog 135 #[.agg #[.int .i64 N, .slice a l.length cap, .slice ba bs.length bc, .slice ca C.length cc, .int .i64 lv, .int .i64 ce], .agg #[.int .i64 ml, .int .i64 mc, .int .i64 me, .slice da dn dc], .slice ia k ic] w fun e w' => e = .returned (.bool (hsB lv ce ml mc me dn k)) ∧ Below w.heap.size w w' := by
 have hg0 := (top2 w (.cells #[.int .i64 N, .slice a l.length cap, .slice ba bs.length bc, .slice ca C.length cc, .int .i64 lv, .int .i64 ce] 118) (.cells #[.int .i64 ml, .int .i64 mc, .int .i64 me, .slice da dn dc] 40)).1
 have hg1 := (top2 w (.cells #[.int .i64 N, .slice a l.length cap, .slice ba bs.length bc, .slice ca C.length cc, .int .i64 lv, .int .i64 ce] 118) (.cells #[.int .i64 ml, .int .i64 mc, .int .i64 me, .slice da dn dc] 40)).2.1
 have hb0 := (top2 w (.cells #[.int .i64 N, .slice a l.length cap, .slice ba bs.length bc, .slice ca C.length cc, .int .i64 lv, .int .i64 ce] 118) (.cells #[.int .i64 ml, .int .i64 mc, .int .i64 me, .slice da dn dc] 40)).2.2.1
 obtain ⟨c0, c1, c2, c3, c4, c5⟩ := six_cells hg0
 obtain ⟨d0, d1, d2, d3⟩ := fourU_cells hg1
 have HM := hid (mayBe_any ml mc me da dn dc ia k ic ((w.alloc (.cells #[.int .i64 N, .slice a l.length cap, .slice ba bs.length bc, .slice ca C.length cc, .int .i64 lv, .int .i64 ce] 118)).alloc (.cells #[.int .i64 ml, .int .i64 mc, .int .i64 me, .slice da dn dc] 40)) hk)
 have hsz : ((w.alloc (.cells #[.int .i64 N, .slice a l.length cap, .slice ba bs.length bc, .slice ca C.length cc, .int .i64 lv, .int .i64 ce] 118)).alloc (.cells #[.int .i64 ml, .int .i64 mc, .int .i64 me, .slice da dn dc] 40)).heap.size = w.heap.size + 2 := by simp
 have HB0 := hid hb0
 clear hg0 hg1 hb0 hk
 unfold hsB
 obtain ⟨E, HEP⟩ := named (mbB me dn k)
 rw [HEP.out] at HM
 rw [HEP.out]
 generalize hp : w.heap.size = p at *
 by_cases h1 : ml = lv
 ·subst h1
  by_cases h2 : mc = ce
  ·subst h2
   rw [decide_eq_true rfl, decide_eq_true rfl]
   go_enter Tryz.func135, Tryz.ntmps135
   go_wp2_with fail
   refine HM.out.mono ?_
   rintro e w2 ⟨rfl, hb2⟩
   have HB2 : Hid (Below p w w2) := HB0.out.trans (hb2.mono (by omega))
   go_wp2_with fail
   go_ret
   exact ⟨rfl, HB2.out⟩
  ·have e2 : ((mc : Int) == ce) = false := by simpa using h2
   rw [decide_eq_false h2]
   go_enter Tryz.func135, Tryz.ntmps135
   go_wp2_with fail
   go_ret
   exact ⟨by simp, HB0.out⟩
 ·have e1 : ((ml : Int) == lv) = false := by simpa using h1
  rw [decide_eq_false h1]
  go_enter Tryz.func135, Tryz.ntmps135
  go_wp2_with fail
  go_ret
  exact ⟨by simp, HB0.out⟩
structure Mt where
 lv : Int
 ce : Int
 ep : Int
 a : Option Addr
 c : Nat
 D : List Int
def Mt.zero : Mt := ⟨0, 0, 0, none, 0, []⟩
def mt (M : List Mt) (j : Nat) : Mt := M.getD j Mt.zero
def Mts (w : World) (a : Option Addr) (M : List Mt) : Prop :=
 (M = [] ∨ ∃ b o, a = some ⟨b, o, none⟩ ∧ b < w.heap.size ∧ ∀ j, j < M.length → w.cell? ⟨b, o + j * 4, none⟩ = some (.int .i64 (mt M j).lv) ∧ w.cell? ⟨b, o + j * 4 + 1, none⟩ = some (.int .i64 (mt M j).ce) ∧ w.cell? ⟨b, o + j * 4 + 2, none⟩ = some (.int .i64 (mt M j).ep) ∧ w.cell? ⟨b, o + j * 4 + 3, none⟩ = some (.slice (mt M j).a (mt M j).D.length (mt M j).c)) ∧ ∀ j, j < M.length → Dts w (mt M j).a (mt M j).D ∧ (mt M j).D.length ≤ 9223372036854775807 ∧ ∀ k, k < (mt M j).D.length → 0 ≤ (mt M j).D.getD k 0 ∧ (mt M j).D.getD k 0 ≤ N5.Inf
theorem Mts.on {w w' : World} {a : Option Addr} {M : List Mt} (h : Mts w a M) (hb : Below w.heap.size w w') : Mts w' a M := by
 refine ⟨?_, fun j hj => ⟨(h.2 j hj).1.on hb, (h.2 j hj).2⟩⟩
 rcases h.1 with h1 | ⟨b, o, h1, h2, h3⟩
 ·exact .inl h1
 ·refine .inr ⟨b, o, h1, Nat.lt_of_lt_of_le h2 hb.size, fun j hj => ?_⟩
  obtain ⟨q0, q1, q2, q3⟩ := h3 j hj
  exact ⟨(hb.cell (p := ⟨b, o + j * 4, none⟩) h2).trans q0, (hb.cell (p := ⟨b, o + j * 4 + 1, none⟩) h2).trans q1, (hb.cell (p := ⟨b, o + j * 4 + 2, none⟩) h2).trans q2, (hb.cell (p := ⟨b, o + j * 4 + 3, none⟩) h2).trans q3⟩
theorem Mts.get {w : World} {a : Option Addr} {M : List Mt} (h : Mts w a M) : ∃ b o, 0 < M.length → a = some ⟨b, o, none⟩ ∧ b < w.heap.size ∧ ∀ j, j < M.length → w.cell? ⟨b, o + j * 4, none⟩ = some (.int .i64 (mt M j).lv) ∧ w.cell? ⟨b, o + j * 4 + 1, none⟩ = some (.int .i64 (mt M j).ce) ∧ w.cell? ⟨b, o + j * 4 + 2, none⟩ = some (.int .i64 (mt M j).ep) ∧ w.cell? ⟨b, o + j * 4 + 3, none⟩ = some (.slice (mt M j).a (mt M j).D.length (mt M j).c) := by
 rcases h.1 with h1 | ⟨b, o, h1⟩
 ·subst h1; exact ⟨0, 0, fun h => absurd h (by simp)⟩
 ·exact ⟨b, o, fun _ => h1⟩
def upR (S : Nat → List Nat) (D : Nat → List Int) : Nat → List A
 | 0 => []
 | i + 1 => adM (S i) (D i) (upR S D i) (D i).length
theorem rdA_ok {n : Nat} {r : List A} {x : A} (h : RdOk n r) (hx : x.f = (x.f.toNat : Nat) ∧ x.f.toNat < n ∧ 0 ≤ x.t ∧ x.t.toNat < n ∧ 0 ≤ x.w ∧ x.w ≤ N5.Inf) : RdOk n (rdA r x) := by
 unfold rdA
 split
 ·intro y hy
  rw [List.mem_append, List.mem_singleton] at hy
  rcases hy with hy | hy
  ·exact h y hy
  ·rw [hy]; exact hx
 ·exact h
theorem adM_ok {n : Nat} {r : List A} {S : List Nat} {D : List Int} (h : RdOk n r) (hS : ∀ i, i < S.length → S.getD i 0 < n) (hDl : D.length = S.length * S.length) (hD : ∀ k, k < D.length → 0 ≤ D.getD k 0 ∧ D.getD k 0 ≤ N5.Inf) : ∀ k, k ≤ D.length → RdOk n (adM S D r k)
 | 0, _ => h
 | k + 1, hk => by
   have h0 : 0 < S.length := Nat.pos_of_ne_zero (fun e => by rw [hDl, e] at hk; simp at hk)
   have h1 := hS (k / S.length) (Nat.div_lt_of_lt_mul (by omega))
   have h2 := hS (k % S.length) (Nat.mod_lt _ h0)
   have h3 := hD k (by omega)
   refine rdA_ok (adM_ok h hS hDl hD k (by omega)) ?_
   unfold mxA
   dsimp only
   exact ⟨by omega, by omega, by omega, by omega, h3.1, h3.2⟩
theorem adA_ok {n : Nat} : ∀ (l r : List A), RdOk n r → (∀ x ∈ l, x.f = (x.f.toNat : Nat) ∧ x.f.toNat < n ∧ 0 ≤ x.t ∧ x.t.toNat < n ∧ 0 ≤ x.w ∧ x.w ≤ N5.Inf) → RdOk n (adA r l)
 | [], _, h, _ => h
 | x :: l, r, h, hl => adA_ok l (rdA r x) (rdA_ok h (hl x (by simp))) (fun y hy => hl y (by simp [hy]))
theorem upR_ok {n : Nat} {S : Nat → List Nat} {D : Nat → List Int} : ∀ k, (∀ i, i < k → (∀ j, j < (S i).length → (S i).getD j 0 < n) ∧ (D i).length = (S i).length * (S i).length ∧ ∀ j, j < (D i).length → 0 ≤ (D i).getD j 0 ∧ (D i).getD j 0 ≤ N5.Inf) → RdOk n (upR S D k)
 | 0, _ => fun x hx => absurd hx (by simp [upR])
 | k + 1, h => adM_ok (upR_ok k (fun i hi => h i (by omega))) (h k (by omega)).1 (h k (by omega)).2.1 (h k (by omega)).2.2 _ (Nat.le_refl _)
theorem upR_len {S : Nat → List Nat} {D : Nat → List Int} : ∀ k, (∀ i, i < k → (D i).length ≤ 1048576) → (upR S D k).length ≤ k * 1048576
 | 0, _ => by simp [upR]
 | k + 1, h => by
   have h1 := adM_len (S k) (D k) (upR S D k) (D k).length
   have h2 := upR_len (S := S) k (fun i hi => h i (by omega))
   have h3 := h k (by omega)
   show (adM (S k) (D k) (upR S D k) (D k).length).length ≤ _
   omega
def kidB (N : Int) (l : List A) (bs : List Int) (cs : List (List Int)) (lv ep : Int) (K : List Nat) (M : List Mt) (i : Nat) : Bool := hsB lv (K.getD i 0 : Nat) (mt M i).lv (mt M i).ce (mt M i).ep (mt M i).D.length (bdV N l bs cs lv (K.getD i 0 : Nat)).length && decide ((mt M i).ep ≤ ep)
def upE (N : Int) (l : List A) (bs : List Int) (cs : List (List Int)) (lv ce ep : Int) (m : Nat) (M : List Mt) : Int :=
 if btE N l bs cs lv ce ≠ 0 then btE N l bs cs lv ce else if jbE ep m (btV N l bs cs lv ce).length ≠ 0 then jbE ep m (btV N l bs cs lv ce).length else if M.length ≠ (chL (lvl cs (lv.toNat - 2)) (lvl cs (lv.toNat - 1)) ce).length then 130 else if (List.range M.length).all (kidB N l bs cs (lv - 1) ep (chL (lvl cs (lv.toNat - 2)) (lvl cs (lv.toNat - 1)) ce) M) = true then 0 else 130
def upL (N : Int) (l : List A) (bs : List Int) (cs : List (List Int)) (lv ce : Int) (ws : List Int) (M : List Mt) : List A :=
 adA (upR (fun i => bdV N l bs cs (lv - 1) ((chL (lvl cs (lv.toNat - 2)) (lvl cs (lv.toNat - 1)) ce).getD i 0 : Nat)) (fun i => (mt M i).D) (chL (lvl cs (lv.toNat - 2)) (lvl cs (lv.toNat - 1)) ce).length) (wgL l (btV N l bs cs lv ce) ws)
set_option maxHeartbeats 1600000 in
theorem radm0_any (g n : Nat) (ia : Option Addr) (ic k : Nat) (da : Option Addr) (dc : Nat) (w : World) :
  Calls Tryz.prog 136 #[.slice (some ⟨g, 0, none⟩) n n, .slice ia k ic, .slice da 0 dc] w fun e w' => e = .returned (.tuple #[]) ∧ w' = w := by
 go_enter Tryz.func136, Tryz.ntmps136
 go_wp2_with fail
 go_loopw [10] (fun i wr => i = .int .i64 0 ∧ wr = w) (fun _ _ => 0)
 case atStart => exact ⟨rfl, rfl⟩
 case round =>
  obtain ⟨rfl, rfl⟩ := hrel
  go_wp2_with fail
  go_end0
  exact ⟨rfl, rfl⟩
set_option maxHeartbeats 3200000 in
theorem matrixR_any (n : Nat) (a : Option Addr) (l : List A) (cap : Nat) (ba : Option Addr) (bs : List Int) (bc : Nat) (ca : Option Addr) (C : List Cl) (cc : Nat) (lv ce ep : Int) (g : Nat) (rv : Nat → Value) (wl : List A) (S : List Nat) (w : World) (hE : inE n l bs (csl C) lv ce = 0) (hS : bdV n l bs (csl C) lv ce = S) (hSn : ∀ i, i < S.length → S.getD i 0 < n) (hS8 : S.length ≤ 1024) (hl : l.length ≤ 9223372036854775807) (hbl : bs.length ≤ 9223372036854775807) (hr : Arcs w a l) (hi : Ints w ba bs) (hR : Rws w ca C) (hRd : RdR w g n rv wl) (hRB : ∀ b, RB g n rv b → b < w.heap.size) (hn8 : n ≤ 1024) (hok : RdOk n wl) (hrl : wl.length ≤ 1099511627776) :
  Calls Tryz.prog 139 #[.agg #[.int .i64 n, .slice a l.length cap, .slice ba bs.length bc, .slice ca C.length cc, .int .i64 lv, .int .i64 ce], .int .i64 ep, .func (.func 140) #[.slice (some ⟨g, 0, none⟩) n n] #[]] w fun e w' => ∃ v c, e = .returned (.tuple #[.agg #[.int .i64 lv, .int .i64 ce, .int .i64 ep, .slice v (mxL wl S).length c], .int .i64 0]) ∧ w'.ownsRow w.heap.size 48 1 (.slice v (mxL wl S).length c) (mxL wl S).length (cellsU (mxL wl S)) ∧ (∀ i, i < S.length → N5.IsD (wl.map toN) (fun _ => true) (S.getD i 0) (dF wl (S.getD i 0))) ∧ Below w.heap.size w w' := by
 obtain ⟨hg0, hg1, hb0, hsz⟩ := top2 w (.cells #[.int .i64 n, .slice a l.length cap, .slice ba bs.length bc, .slice ca C.length cc, .int .i64 lv, .int .i64 ce] 118) (.cells #[.int .i64 0, .int .i64 0, .int .i64 0, .slice none 0 0] 40)
 obtain ⟨c0, c1, c2, c3, c4, c5⟩ := six_cells hg0
 obtain ⟨i75, hi75, hz75, hs75, hby75⟩ := info_parts info75
 have HBD := hid (plBound_any n a l cap ba bs bc ca C cc lv ce _ hl hbl (hr.on hb0) (hi.on hb0) (hR.on hb0))
 rw [hE, hS] at HBD
 have HB0 := hid hb0
 have HG0 := hid hg0
 have HG1 := hid hg1
 have HGB : Hid (∀ W2, Below w.heap.size w W2 → ∀ s, s < n → Calls Tryz.prog 140 #[.slice (some ⟨g, 0, none⟩) n n, .int .i64 s] W2 fun e w' => ∃ bf, e = .returned (.slice (some ⟨bf, 0, none⟩) n n) ∧ W2.heap.size ≤ bf ∧ TbV w' bf n 48 (fun v => .int .u64 (dF wl s v)) ∧ N5.IsD (wl.map toN) (fun _ => true) s (dF wl s) ∧ Below W2.heap.size W2 w') := fun W2 hb2 s hs => rfrom_any g n s rv wl W2 (hRd.fr (D := fun _ => False) ⟨hb2.os, hb2.tape, hb2.output, hb2.size, fun k hk _ => hb2.block k hk⟩ (fun _ _ h => h)) (fun b hb => Nat.lt_of_lt_of_le (hRB b hb) hb2.size) hs hn8 hok hrl
 have HSN := hid hSn
 clear hr hi hR hb0 hg0 hg1 hE hS hRd hRB hok hrl hn8 hSn
 generalize hp : w.heap.size = p at *
 go_enter Tryz.func139, Tryz.ntmps139
 go_wp2_with fail
 generalize hWW : (w.alloc (.cells #[.int .i64 n, .slice a l.length cap, .slice ba bs.length bc, .slice ca C.length cc, .int .i64 lv, .int .i64 ce] 118)).alloc (.cells #[.int .i64 0, .int .i64 0, .int .i64 0, .slice none 0 0] 40) = W at *
 clear hWW
 refine HBD.out.mono ?_
 rintro e w1 ⟨v1, rfl, hr1, hb1⟩
 have hz1 := hb1.size
 have HB1 : Hid (Below p w w1) := HB0.out.trans (hb1.mono (by omega))
 have HK0 := hid ((hb1.block p (by omega)).trans HG0.out)
 have HK1 := hid ((hb1.block (p + 1) (by omega)).trans HG1.out)
 have HI1 := hid hr1.ints
 obtain ⟨iy, oy, hiy⟩ := hr1.ints.get
 rw [ints_len] at hiy
 have HIY := hid hiy
 have hw1 : p + 2 ≤ w1.heap.size := by omega
 clear hr1 hb1 HBD c0 c1 c2 c3 c4 c5 HB0 HG0 HG1 hiy hz1
 obtain ⟨m, HM⟩ := named S.length
 rw [HM.out] at hS8 HIY HSN
 rw [HM.out]
 have hmm : m * m ≤ 1048576 := Nat.mul_le_mul hS8 hS8
 have emm : (m : Int) * m = ((m * m : Nat) : Int) := by simp
 obtain ⟨mm, HMM⟩ := named (m * m)
 rw [HMM.out] at hmm emm
 have ewm : IntKind.i64.wrap ((m : Int) * m) = (mm : Int) := by rw [emm, IntKind.wrap_i64]; omega
 have ewn : IntKind.i64.wrap (mm : Int) = (mm : Int) := by rw [IntKind.wrap_i64]; omega
 have hmk : ∀ w, (Instr.makeSlice 38 (.int .i64 0) (.int .i64 mm)).run Tryz.prog w = .ok (.slice (some ⟨w.heap.size, 0, none⟩) 0 mm) (w.alloc (.cells (madeCells #[.int .u64 0] mm) 48)) := fun w => by
  have := run_make (P := Tryz.prog) w 38 48 i75 (.int .u64 0) Tryz.underlying38 hi75 hz75 .i64 .i64 0 mm (by omega) (by omega) (by rw [hby75]; omega) (by omega)
  rw [hs75] at this
  rw [this, Int.toNat_natCast, Nat.mul_one]
  rfl
 generalize hq : w1.heap.size = q at *
 have HO0 : Hid ((w1.alloc (.cells (madeCells #[.int .u64 0] mm) 48)).ownsRow q 48 1 (.slice (some ⟨q, 0, none⟩) 0 mm) 0 []) := by
  have := World.ownsRow_made (base := q) (e := 48) (size := 1) w1 (madeCells #[.int .u64 0] mm) mm (by omega) (by unfold maxLen; omega) (by rw [size_madeCells, Nat.mul_one])
  rw [hq] at this
  exact this
 have HBQ : Hid (Below q w1 (w1.alloc (.cells (madeCells #[.int .u64 0] mm) 48))) := (Below.refl _ _).alloc (by omega) _
 go_wp2_with fail
 generalize w1.alloc (.cells (madeCells #[.int .u64 0] mm) 48) = w2 at *
 clear hmk
 go_loopw [10, 33] (fun s i wr => ∃ (k : Nat) (G : List Int), k ≤ m ∧ i = .int .i64 k ∧ s = .slice (some ⟨q, 0, none⟩) G.length mm ∧ Hid (mxK wl S k = G) ∧ Hid (wr.ownsRow q 48 1 (.slice (some ⟨q, 0, none⟩) G.length mm) G.length (cellsU G)) ∧ Hid (∀ i, i < k → N5.IsD (wl.map toN) (fun _ => true) (S.getD i 0) (dF wl (S.getD i 0))) ∧ Hid (Below q w1 wr)) (fun _ i _ => m - (intOf i).toNat)
 case atStart => exact ⟨0, [], Nat.zero_le _, rfl, rfl, by show _ = _; simp [mxK], HO0, fun i hi => absurd hi (by omega), HBQ⟩
 case round =>
  clear HO0 HBQ
  obtain ⟨k, G, hk, rfl, rfl, HG, HOW, HDD, HBR⟩ := hrel
  have hwz : q ≤ wr.heap.size := by have := HBR.out.size; omega
  have hbw : Below p w wr := HB1.out.trans (HBR.out.mono (by omega))
  by_cases hlk : k < m
  ·have hlk' : (k : Int) < m := by omega
   have hk0 : (0 : Int) ≤ k := by omega
   obtain ⟨rfl, hyl, hyat⟩ := HIY.out (by omega)
   have s0 := (HBR.out.cell (p := ⟨iy, oy + k, none⟩) (by show iy < q; omega)).trans (hyat k hlk)
   rw [ints_getD (by rw [HM.out]; exact hlk)] at s0
   have hsn := HSN.out k hlk
   have HSU := hid (mxK_succ (wl := wl) (S := S) (k := k) (by rw [HM.out]; exact hlk))
   rw [HM.out] at HSU
   have hkm : k * m + m ≤ mm := by
    rw [← HMM.out, ← Nat.succ_mul]
    exact Nat.mul_le_mul_right _ (by omega)
   have hGL : G.length ≤ k * m := by
    rw [← HG.out]
    have h1 := mxK_len wl S k
    rw [HM.out] at h1
    exact h1
   obtain ⟨km, HKM⟩ := named (k * m)
   rw [HKM.out] at hkm hGL
   obtain ⟨s, HSS⟩ := named (S.getD k 0)
   rw [HSS.out] at s0 hsn HSU
   have HCL := hid (HGB.out wr hbw s hsn)
   clear hyat hbw
   go_wp2_with fail
   refine HCL.out.mono ?_
   rintro e w3 ⟨bf, rfl, hbf, hT3, hD3, hb3⟩
   have HT3 := hid hT3
   have HD3 := hid hD3
   have HB3 : Hid (Below q w1 w3) := HBR.out.trans (hb3.mono hwz)
   have HO3 := hid (own_on HOW.out hb3)
   have hqr : q < wr.heap.size := (HOW.out.lt q rfl).2
   have hbq : bf ≠ q := by omega
   clear hT3 hD3 hb3 HCL s0
   go_wp2_with fail
   have HG0 := HG
   generalize G = G0 at *
   clear HOW HBR
   generalize hw3 : w3.heap.size = q3 at *
   generalize wr.heap.size = qr at *
   clear wr
   go_loopw [10, 42] (fun s' i wr => ∃ (t : Nat) (G : List Int), t ≤ m ∧ i = .int .i64 t ∧ s' = .slice (some ⟨q, 0, none⟩) G.length mm ∧ G.length ≤ km + t ∧ Hid (G0 ++ (S.take t).map (dF wl s) = G) ∧ Hid (wr.ownsRow q 48 1 (.slice (some ⟨q, 0, none⟩) G.length mm) G.length (cellsU G)) ∧ Hid (TbV wr bf n 48 (fun v => .int .u64 (dF wl s v))) ∧ Hid (Below q w1 wr)) (fun _ i _ => m - (intOf i).toNat)
   case atStart => exact ⟨0, G0, Nat.zero_le _, rfl, rfl, by omega, by show _ = _; simp, HO3, HT3, HB3⟩
   case round =>
    clear HO3 HT3 HB3
    obtain ⟨t, G, ht, rfl, rfl, hGL2, HG, HOW, HTR, HBR⟩ := hrel
    have hwz : q ≤ wr.heap.size := by have := HBR.out.size; omega
    by_cases hlt : t < m
    ·have hlt' : (t : Int) < m := by omega
     have ht0 : (0 : Int) ≤ t := by omega
     obtain ⟨_, hyl, hyat⟩ := HIY.out (by omega)
     have s0 := (HBR.out.cell (p := ⟨iy, oy + t, none⟩) (by show iy < q; omega)).trans (hyat t hlt)
     rw [ints_getD (by rw [HM.out]; exact hlt)] at s0
     have htn := HSN.out t hlt
     have HMS := hid (map_snoc (f := dF wl s) (S := S) (t := t) (by rw [HM.out]; exact hlt))
     obtain ⟨x, HX⟩ := named (S.getD t 0)
     rw [HX.out] at s0 htn HMS
     have f0 : wr.cell? ⟨bf, x, none⟩ = some (.int .u64 (dF wl s x)) := HTR.out.cell htn
     obtain ⟨y, HY⟩ := named (dF wl s x)
     rw [HY.out] at f0 HMS
     have hx' : (x : Int) < n := by omega
     have hx0 : (0 : Int) ≤ x := by omega
     have HG2 : Hid (G0 ++ (S.take (t + 1)).map (dF wl s) = G ++ [y]) := by show _ = _; rw [HMS.out, ← HG.out, List.append_assoc]
     have HNW : Hid (∀ j u, [Value.int .u64 y][j]? = some u → (wr.alloc (.cells #[.int .u64 y] 48)).cell? ((⟨wr.heap.size, 0, none⟩ : Addr).add j) = some u) := by
      intro j u hu
      match j, hu with
      | 0, hu => simp at hu; subst hu; simp [Addr.add]
     have HO3 := hid (HOW.out.alloc (.cells #[.int .u64 y] 48))
     have HBZ : Hid (q ≤ (wr.alloc (.cells #[.int .u64 y] 48)).heap.size) := by show _ ≤ _; rw [World.size_alloc]; omega
     have HBB : Hid (Below q w1 (wr.alloc (.cells #[.int .u64 y] 48))) := HBR.out.alloc (by omega) _
     have HCA : Hid (cellsU G ++ [.int .u64 y] = cellsU (G ++ [y])) := cellsU_snoc G y
     have HTA : Hid (TbV (wr.alloc (.cells #[.int .u64 y] 48)) bf n 48 (fun v => .int .u64 (dF wl s v))) := HTR.out.same (Below.heap_alloc _ _ _ HTR.out.lt)
     clear hyat
     go_wp2_with (at_builtin; go_must (refine wpList_append_fits rfl (.tmp 46) (.tmp 51) 38 rfl q 48 i75 1 Tryz.underlying38 hi75 hs75 q G.length mm (cellsU G) rfl HO3.out ⟨wr.heap.size, 0, none⟩ 1 1 [.int .u64 y] rfl rfl HNW.out (by intro u hu; simp at hu; subst hu; rfl) (by omega) ?_; intro w6 hown6 hgrow6; rw [HCA.out] at hown6; have h7 : w6.ownsRow q 48 1 (.slice (some ⟨q, 0, none⟩) (G ++ [y]).length mm) (G ++ [y]).length (cellsU (G ++ [y])) := (by rw [List.length_append]; exact hown6); have HO7 := hid h7; have HB6 : Hid (Below q w1 w6) := HBB.out.grown hgrow6 HBZ.out (fun j hj => by have := Option.some.inj hj; omega); have HGR6 := hid hgrow6; clear hown6 h7 hgrow6))
     have HT6 : Hid (TbV w6 bf n 48 (fun v => .int .u64 (dF wl s v))) := HTA.out.same (HGR6.out.block bf HTA.out.lt (fun h => hbq (Option.some.inj h)))
     exact ⟨⟨t + 1, G ++ [y], by omega, by simp, by rw [List.length_append]; rfl, by rw [List.length_append]; simp; omega, HG2, HO7, HT6, HB6⟩, by simp [intOf]; omega⟩
    ·have hlt' : ¬ (t : Int) < m := by omega
     obtain rfl : t = m := by omega
     have HG3 : Hid (mxK wl S (k + 1) = G) := by show _ = _; rw [HSU.out, HG0.out, HG.out]
     have HD4 : Hid (∀ i, i < k + 1 → N5.IsD (wl.map toN) (fun _ => true) (S.getD i 0) (dF wl (S.getD i 0))) := fun i hi => by
      by_cases h : i < k
      ·exact HDD.out i h
      ·have e : i = k := by omega
       rw [e, HSS.out]
       exact HD3.out
     go_wp2_with fail
     exact ⟨⟨k + 1, G, by omega, by simp, rfl, HG3, HOW, HD4, HBR⟩, by simp [intOf]; omega⟩
  ·have hlk' : ¬ (k : Int) < m := by omega
   obtain rfl : k = m := by omega
   have HGF : Hid (mxL wl S = G) := by show _ = _; unfold mxL; rw [HM.out]; exact HG.out
   have hG0 := (HBR.out.block p (by omega)).trans HK0.out
   obtain ⟨e0, e1, e2, e3, e4, e5⟩ := six_cells hG0
   have hG1 := (HBR.out.block (p + 1) (by omega)).trans HK1.out
   obtain ⟨⟨d0, d1, d2, d3⟩, f0, f1, f2, f3⟩ := four_cells hG1
   have HBW := hid hbw
   clear hbw
   have HR4 := hid (four_cells (set4 hG1 (.int .i64 lv) (.int .i64 ce) (.int .i64 ep) (.slice (some ⟨q, 0, none⟩) G.length mm))).1
   have HO4 := hid (own_base (own_set4 HOW.out (show p + 1 < q by omega) (.int .i64 lv) (.int .i64 ce) (.int .i64 ep) (.slice (some ⟨q, 0, none⟩) G.length mm)) (show p ≤ q by omega))
   have HB4 := hid (below_set4 HBW.out (show p ≤ p + 1 by omega) (.int .i64 lv) (.int .i64 ce) (.int .i64 ep) (.slice (some ⟨q, 0, none⟩) G.length mm))
   clear hG0 hG1
   go_wp2_with fail
   obtain ⟨r0, r1, r2, r3⟩ := HR4.out
   rw [HGF.out, HM.out]
   refine bodyPost_ret (v := .tuple #[.agg #[.int .i64 lv, .int .i64 ce, .int .i64 ep, .slice (some ⟨q, 0, none⟩) G.length mm], .int .i64 0]) (by simp [results, Tryz.results139, go_sem, r0, r1, r2, r3]) rfl ?_
   exact ⟨_, _, rfl, HO4.out, HDD.out, HB4.out⟩
end Go.Proofs.YtaafkpojjdjphaaGreat
namespace Go.Proofs
open Go.Shelf
def Tryz.lays189_ren : Go.Shelf.Ren := ⟨fun | 189 => 188 | 125 => 219 | 257 => 218 | 128 => 239 | 129 => 240 | 294 => 230 | 295 => 231 | 296 => 232 | 297 => 233 | 298 => 234 | 299 => 235 | 216 => 236 | 300 => 237 | 301 => 238 | 328 => 243 | 329 => 244 | 330 => 245 | 331 => 246 | 332 => 247 | 215 => 248 | 343 => 249 | n => n, fun | 28 => 25 | 3 => 3 | 46 => 262 | 0 => 0 | 51 => 82 | 53 => 47 | 4 => 4 | 183 => 304 | 182 => 303 | 131 => 308 | 5 => 5 | 9 => 9 | 218 => 313 | 222 => 317 | 228 => 319 | 229 => 271 | n => n, fun | n => n⟩
theorem Tryz.lays189 : Go.Proofs.Lays.n189 Tryz.prog Tryz.lays189_ren := {
 mixed := by kernel_rfl
 f125 := Tryz.func219.trans (congrArg some (by kernel_rfl))
 f128 := Tryz.func239.trans (congrArg some (by kernel_rfl))
 f129 := Tryz.func240.trans (congrArg some (by kernel_rfl))
 f189 := Tryz.func188.trans (congrArg some (by kernel_rfl))
 f215 := Tryz.func248.trans (congrArg some (by kernel_rfl))
 f216 := Tryz.func236.trans (congrArg some (by kernel_rfl))
 f257 := Tryz.func218.trans (congrArg some (by kernel_rfl))
 f294 := Tryz.func230.trans (congrArg some (by kernel_rfl))
 f295 := Tryz.func231.trans (congrArg some (by kernel_rfl))
 f296 := Tryz.func232.trans (congrArg some (by kernel_rfl))
 f297 := Tryz.func233.trans (congrArg some (by kernel_rfl))
 f298 := Tryz.func234.trans (congrArg some (by kernel_rfl))
 f299 := Tryz.func235.trans (congrArg some (by kernel_rfl))
 f300 := Tryz.func237.trans (congrArg some (by kernel_rfl))
 f301 := Tryz.func238.trans (congrArg some (by kernel_rfl))
 f328 := Tryz.func243.trans (congrArg some (by kernel_rfl))
 f329 := Tryz.func244.trans (congrArg some (by kernel_rfl))
 f330 := Tryz.func245.trans (congrArg some (by kernel_rfl))
 f331 := Tryz.func246.trans (congrArg some (by kernel_rfl))
 f332 := Tryz.func247.trans (congrArg some (by kernel_rfl))
 f343 := Tryz.func249.trans (congrArg some (by kernel_rfl))
 t0 := Tryz.underlying0
 a0 := Tryz.isAgg0
 z0 := Tryz.sizeOf0
 v0 := Tryz.zeroValue0
 t3 := Tryz.underlying3
 a3 := Tryz.isAgg3
 z3 := Tryz.sizeOf3
 v3 := Tryz.zeroValue3
 t4 := Tryz.underlying4
 a4 := Tryz.isAgg4
 z4 := Tryz.sizeOf4
 v4 := Tryz.zeroValue4
 t5 := Tryz.underlying5
 a5 := Tryz.isAgg5
 z5 := Tryz.sizeOf5
 v5 := Tryz.zeroValue5
 t9 := Tryz.underlying9
 a9 := Tryz.isAgg9
 z9 := Tryz.sizeOf9
 v9 := Tryz.zeroValue9
 t28 := Tryz.underlying25
 a28 := Tryz.isAgg25
 z28 := Tryz.sizeOf25
 v28 := Tryz.zeroValue25
 t46 := Tryz.underlying262
 a46 := Tryz.isAgg262
 z46 := Tryz.sizeOf262
 v46 := Tryz.zeroValue262
 t51 := Tryz.underlying82
 a51 := Tryz.isAgg82
 z51 := Tryz.sizeOf82
 v51 := Tryz.zeroValue82
 t53 := Tryz.underlying47
 a53 := Tryz.isAgg47
 z53 := Tryz.sizeOf47
 v53 := Tryz.zeroValue47
 t131 := Tryz.underlying308
 a131 := Tryz.isAgg308
 z131 := Tryz.sizeOf308
 v131 := Tryz.zeroValue308
 t182 := Tryz.underlying303
 a182 := Tryz.isAgg303
 z182 := Tryz.sizeOf303
 v182 := Tryz.zeroValue303
 t183 := Tryz.underlying304
 a183 := Tryz.isAgg304
 z183 := Tryz.sizeOf304
 v183 := Tryz.zeroValue304
 t218 := Tryz.underlying313
 a218 := Tryz.isAgg313
 z218 := Tryz.sizeOf313
 v218 := Tryz.zeroValue313
 t222 := Tryz.underlying317
 a222 := Tryz.isAgg317
 z222 := Tryz.sizeOf317
 v222 := Tryz.zeroValue317
 t228 := Tryz.underlying319
 a228 := Tryz.isAgg319
 z228 := Tryz.sizeOf319
 v228 := Tryz.zeroValue319
 t229 := Tryz.underlying271
 a229 := Tryz.isAgg271
 z229 := Tryz.sizeOf271
 v229 := Tryz.zeroValue271 }
open Go.Sort Go.RowKit in
theorem Tryz.slices_Sort_int (blk off cap : Nat) (zs : List Int) (w : World) (hH : Holds (Value.int .i64) w blk off zs.toArray) (hblk : blk < w.heap.size) (hsz : zs.length < 4611686018427387904) :
  Calls Tryz.prog 188 #[.slice (some ⟨blk, off, none⟩) zs.length cap] w fun e w' =>
   e = .returned (.tuple #[]) ∧ ∃ n os, w' = grow (putRow (Value.int .i64) (Sort.ahead w n) blk off (zs.mergeSort fun x y => decide (x ≤ y)).toArray) os := Any.slices_Sort_int Tryz.lays189 blk off cap zs w hH hblk hsz
end Go.Proofs
namespace Go.Proofs.YtaafkpojjdjphaaGreat
open Go.RowKit
open Go.Sort (Holds putRow putCells mapBlock onCells grow heap_grow_old)
def srt (ys : List Int) : List Int := ys.mergeSort fun x y => decide (x ≤ y)
theorem srt_len (ys : List Int) : (srt ys).length = ys.length := by simp [srt]
theorem holds_tail {w : World} {base g n cap k : Nat} {xs ys : List Int} (h : w.ownsRow base 3 1 (.slice (some ⟨g, 0, none⟩) n cap) n (cellsI (xs ++ ys))) (hx : xs.length = k) : Holds (Value.int .i64) w g k ys.toArray := by
 have hl : xs.length + ys.length = n := by have := h.1; rw [cellsI_len] at this; simpa using this
 intro j hj
 have hj' : j < ys.length := by simpa using hj
 refine ⟨?_, h.frozenAt _⟩
 rw [h.cellAt (k + j) (by omega)]
 unfold cellsI
 rw [List.map_append, List.getElem?_append_right (by simp; omega)]
 simp [hx, hj', getElem!_pos]
theorem own_tail {w : World} {base g n cap k q : Nat} {os : Array Obj} {xs ys zs : List Int} (h : w.ownsRow base 3 1 (.slice (some ⟨g, 0, none⟩) n cap) n (cellsI (xs ++ ys))) (hx : xs.length = k) (hz : zs.length = ys.length) :
  (grow (putRow (Value.int .i64) (Sort.ahead w q) g k zs.toArray) os).ownsRow base 3 1 (.slice (some ⟨g, 0, none⟩) n cap) n (cellsI (xs ++ zs)) := by
 have hl : xs.length + ys.length = n := by have := h.1; rw [cellsI_len] at this; simpa using this
 rcases h.2 with ⟨e0, _⟩ | ⟨g', cap', cur, e0, hb, hg, hn, hm, hs, ht⟩
 ·cases e0
 ·injection e0 with e1 _ e3
  injection e1 with e1
  injection e1 with e1
  subst e1; subst e3
  have hlt : g < w.heap.size := lt_of_block hg
  refine ⟨by rw [cellsI_len, List.length_append]; omega, .inr ⟨g, cap, putCells (Value.int .i64) k zs.toArray cur, rfl, hb, ?_, hn, hm, by simpa [putCells] using hs, ?_⟩⟩
  ·rw [heap_grow_old _ _ (by simpa [putRow, mapBlock, Sort.ahead] using hlt)]
   simp [putRow, mapBlock, Sort.ahead, Array.getElem?_modify, hg, onCells]
  ·apply List.ext_getElem?
   intro j
   rw [List.getElem?_take, Array.getElem?_toList]
   by_cases hj : j < n
   ·have hjc : j < cur.size := by omega
    simp only [Nat.mul_one, if_pos hj, putCells, Array.getElem?_mapIdx, Array.getElem?_eq_getElem hjc, Option.map_some]
    have e1 : (cur.toList.take (n * 1))[j]? = (cellsI (xs ++ ys))[j]? := by rw [ht]
    rw [List.getElem?_take, if_pos (by omega), Array.getElem?_toList, Array.getElem?_eq_getElem hjc] at e1
    by_cases hjk : j < k
    ·rw [if_neg (by omega), e1]
     unfold cellsI
     rw [List.map_append, List.map_append, List.getElem?_append_left (by simp; omega), List.getElem?_append_left (by simp; omega)]
    ·rw [if_pos ⟨by omega, by simp; omega⟩]
     unfold cellsI
     rw [List.map_append, List.getElem?_append_right (by simp; omega)]
     have : j - k < zs.length := by omega
     simp [hx, this, getElem!_pos]
   ·have : (cellsI (xs ++ zs)).length ≤ j := by rw [cellsI_len, List.length_append]; omega
    rw [List.getElem?_eq_none this, if_neg (by omega)]
theorem sort_fr {w : World} {g k q : Nat} {os : Array Obj} {zs : List Int} : Fr (fun j => j = g) w (grow (putRow (Value.int .i64) (Sort.ahead w q) g k zs.toArray) os) := by
 refine ⟨rfl, rfl, rfl, by simp [grow, putRow, mapBlock, Sort.ahead], fun j hj hn => ?_⟩
 rw [heap_grow_old _ _ (by simpa [putRow, mapBlock, Sort.ahead] using hj)]
 simp [putRow, mapBlock, Sort.ahead, Array.getElem?_modify, Ne.symm hn]
theorem sort_any {w : World} {base g n cap k c m : Nat} {xs ys : List Int} (h : w.ownsRow base 3 1 (.slice (some ⟨g, 0, none⟩) n cap) n (cellsI (xs ++ ys))) (hx : xs.length = k) (hm : m = ys.length) (hb : ys.length < 4611686018427387904) :
  Calls Tryz.prog 188 #[.slice (some ⟨g, k, none⟩) m c] w fun e w' => e = .returned (.tuple #[]) ∧ w'.ownsRow base 3 1 (.slice (some ⟨g, 0, none⟩) n cap) n (cellsI (xs ++ srt ys)) ∧ Fr (fun j => j = g) w w' := by
 subst hm
 obtain ⟨g', c', he, _, _, hlt, _⟩ := own_shape h (by intro e; cases e)
 injection he with e1 _ _
 injection e1 with e1
 injection e1 with e1
 subst e1
 refine (Tryz.slices_Sort_int g k c ys w (holds_tail h hx) hlt hb).mono ?_
 rintro e w' ⟨rfl, q, os, rfl⟩
 exact ⟨rfl, own_tail h hx (srt_len ys), sort_fr⟩
end Go.Proofs.YtaafkpojjdjphaaGreat
