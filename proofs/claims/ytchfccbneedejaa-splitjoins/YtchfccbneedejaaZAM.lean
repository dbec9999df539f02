/-
  The contract of natcut.Pairs. The contracts of slices.Max over numbers and of split.begin. The contract of split.CutUp. The contract of slices.SortFunc at this translation: one application of a theorem of the kit. The contract of slices.SortFunc at pairs.
-/
import Derived.Test.YtchfccbneedejaaZAL
import Derived.Shelf.SlSortCmp.WholeK
import Derived.Test.YtchfccbneedejaaProg
import Derived.Test.YtchfccbneedejaaZAF
import Derived.Test.YtchfccbneedejaaZAA
import Derived.Shelf.SlSortCmp.NoneTotal
namespace Go.Proofs.Ytchfccbneedejaa
open Go.RowKit
/-- The greatest of the first numbers. -/
def mxL (S : List Nat) : Nat → Nat
  | 0 => S.getD 0 0
  | k + 1 => max (mxL S k) (S.getD (k + 1) 0)
theorem mxL_le (S : List Nat) : ∀ k j, j ≤ k → S.getD j 0 ≤ mxL S k
  | 0, j, h => by
    obtain rfl : j = 0 := by omega
    exact Nat.le_refl _
  | k + 1, j, h => by
    show _ ≤ max (mxL S k) (S.getD (k + 1) 0)
    by_cases e : j = k + 1
    · subst e; omega
    · have := mxL_le S k j (by omega); omega
theorem mxL_at (S : List Nat) : ∀ k, ∃ j, j ≤ k ∧ mxL S k = S.getD j 0
  | 0 => ⟨0, Nat.le_refl _, rfl⟩
  | k + 1 => by
    obtain ⟨j, hj, e⟩ := mxL_at S k
    show ∃ j, _ ∧ max (mxL S k) (S.getD (k + 1) 0) = _
    by_cases h : mxL S k ≤ S.getD (k + 1) 0
    · exact ⟨k + 1, Nat.le_refl _, Nat.max_eq_right h⟩
    · exact ⟨j, by omega, by rw [Nat.max_eq_left (by omega)]; exact e⟩
set_option maxRecDepth 100000 in
set_option maxHeartbeats 1600000 in
theorem max_any (b : Option Addr) (S : List Nat) (bc : Nat) (w : World) (hn : 0 < S.length) (hS : S.length ≤ 1024) (hi : Ints w b (ints S)) :
    Calls Try.prog 37 #[.slice b S.length bc] w fun e w' => e = .returned (.int .i64 ((mxL S (S.length - 1) : Nat) : Int)) ∧ Below w.heap.size w w' := by
  obtain ⟨ix, ox, hix⟩ := hi.get
  obtain ⟨rfl, hbl, hat⟩ := hix (by rw [ints_len]; exact hn)
  have HAT : Hid (∀ j, j < S.length → w.cell? ⟨ix, ox + j, none⟩ = some (.int .i64 ((S.getD j 0 : Nat) : Int))) := fun j hj => by rw [← ints_getD hj]; exact hat j (by rw [ints_len]; exact hj)
  have y0 := HAT.out 0 hn
  rw [Nat.add_zero] at y0
  have HX0 : Hid (mxL S 0 = S.getD 0 0) := rfl
  obtain ⟨m0, HM0⟩ := named (S.getD 0 0)
  rw [HM0.out] at y0 HX0
  have hn' : ¬ (S.length : Int) < 1 := by omega
  have hn2 : (0 : Int) < S.length := by omega
  obtain ⟨R, HR⟩ := named (mxL S (S.length - 1))
  rw [HR.out]
  clear hix hat hi
  go_enter Try.func37, Try.ntmps37
  go_wp2_with fail
  clear y0
  go_loopw [3, 4] (fun s3 i wr => ∃ k m : Nat, k < S.length ∧ s3 = .int .i64 m ∧ i = .int .i64 ((k : Int) + 1) ∧ Hid (mxL S k = m) ∧ Hid (wr = w)) (fun _ i _ => S.length - (intOf i).toNat)
  case atStart => exact ⟨0, m0, hn, rfl, rfl, HX0, rfl⟩
  case round =>
    obtain ⟨k, m, hk, rfl, rfl, HM, HW⟩ := hrel
    by_cases hlk : k + 1 < S.length
    · have hlk' : (k : Int) + 1 < S.length := by omega
      have y0 := HAT.out (k + 1) hlk
      have HNX : Hid (mxL S (k + 1) = max m (S.getD (k + 1) 0)) := by show _ = _; rw [← HM.out]; rfl
      obtain ⟨x, HX⟩ := named (S.getD (k + 1) 0)
      rw [HX.out] at y0 HNX
      rw [← HW.out] at y0
      have e1 : ((k : Int) + 1).toNat = k + 1 := by omega
      have e2 : (0 : Int) ≤ (k : Int) + 1 := by omega
      go_wp2_with fail
      exact ⟨⟨k + 1, max m x, hlk, by congr 1; omega, by simp, HNX, HW⟩, by simp [intOf]; omega⟩
    · have hlk' : ¬ (k : Int) + 1 < S.length := by omega
      obtain rfl : R = m := by rw [← HR.out, ← HM.out]; congr 1; omega
      go_wp2_with fail
      go_ret
      refine ⟨rfl, ?_⟩
      rw [HW.out]
      exact Below.refl _ _
set_option maxRecDepth 100000 in
set_option maxHeartbeats 3200000 in
theorem sbegin_any (pa : Option Addr) (P : List Pr) (pc : Nat) (ad : Addr) (L : List Nat) (bc : Nat) (S : List Nat) (sg sc bd B : Nat) (w : World) (hP : P.length ≤ 8192) (hL : L.length ≤ 1024) (hPI : PIn P L.length) (hM : ∀ x, x ∈ L → x < S.length) (hS : S.length ≤ 1024) (hs : ∀ j, S.getD j 0 ≤ 1024) (hbd : bd ≤ 1024) (hB : B ≤ w.heap.size) (hpr : Prs w pa P) (hi : Ints w (some ad) (ints L)) (hso : w.ownsRow B 3 1 (.slice (some ⟨sg, 0, none⟩) S.length sc) S.length (cellsI (ints S))) :
    Calls Try.prog 38 #[.slice pa P.length pc, .slice (some ad) L.length bc, .slice (some ⟨sg, 0, none⟩) S.length sc, .int .i64 (bd : Int)] w fun e w' => ∃ jb, e = .returned (.pointer (some ⟨jb, 0, none⟩)) ∧ Hid (∃ lg lc ov l, JS w' jb B bd L S (fits S bd l) lg sg lc sc ov ∧ Lks P L l ∧ l.length ≤ P.length) ∧ Below w.heap.size w w' := by
  have hsw : sg < w.heap.size := (hso.lt sg rfl).2
  have HCL := Lib.hid (clone_any ad (ints L) bc w (by rw [ints_len]; exact hL) hi)
  rw [ints_len] at HCL
  have HPR := Lib.hid hpr
  have HI := Lib.hid hi
  have HSO := Lib.hid hso
  have HPI := Lib.hid hPI
  have HM := Lib.hid hM
  have HSS := Lib.hid hs
  clear hpr hi hso hPI hM hs
  generalize hp : w.heap.size = p at *
  go_enter Try.func38, Try.ntmps38
  go_wp2_with fail
  refine HCL.out.mono ?_
  rintro e w1 ⟨lg, lc, rfl, hown1, hb1⟩
  have HB1 := Lib.hid hb1
  have HO1 := Lib.hid hown1
  have hlg : p ≤ lg := (hown1.lt lg rfl).1
  have hlw : lg < w1.heap.size := (hown1.lt lg rfl).2
  have hpw1 : p ≤ w1.heap.size := by have := hb1.size; omega
  have HSO1 := Lib.hid (own_on HSO.out (hp ▸ hb1))
  have HPR1 := Lib.hid (HPR.out.on (hp ▸ hb1))
  have HI1 := Lib.hid (HI.out.on (hp ▸ hb1))
  clear hown1 hb1 HCL
  have HBA : Hid (Below w1.heap.size w1 (w1.alloc (.cells #[.int .i64 (bd : Int), .slice (some ⟨lg, 0, none⟩) L.length lc, .slice (some ⟨sg, 0, none⟩) S.length sc, .slice none 0 0] 57))) := (Below.refl _ _).alloc (Nat.le_refl _) _
  have HJ0 : Hid (JS (w1.alloc (.cells #[.int .i64 (bd : Int), .slice (some ⟨lg, 0, none⟩) L.length lc, .slice (some ⟨sg, 0, none⟩) S.length sc, .slice none 0 0] 57)) w1.heap.size B bd L S [] lg sg lc sc (.slice none 0 0)) := ⟨heap_top w1 _, own_base (own_on HO1.out HBA.out) hB, own_on HSO1.out HBA.out, World.ownsRow_nil _ _ _ _, by omega, by omega⟩
  have HB2 : Hid (Below p w (w1.alloc (.cells #[.int .i64 (bd : Int), .slice (some ⟨lg, 0, none⟩) L.length lc, .slice (some ⟨sg, 0, none⟩) S.length sc, .slice none 0 0] 57))) := HB1.out.trans (HBA.out.mono hpw1)
  have HPR2 := Lib.hid (HPR1.out.on HBA.out)
  have HI2 := Lib.hid (HI1.out.on HBA.out)
  have hsz2 : p ≤ (w1.alloc (.cells #[.int .i64 (bd : Int), .slice (some ⟨lg, 0, none⟩) L.length lc, .slice (some ⟨sg, 0, none⟩) S.length sc, .slice none 0 0] 57)).heap.size := Nat.le_trans hpw1 HBA.out.size
  go_wp2_with fail
  generalize hX : w1.alloc (.cells #[.int .i64 (bd : Int), .slice (some ⟨lg, 0, none⟩) L.length lc, .slice (some ⟨sg, 0, none⟩) S.length sc, .slice none 0 0] 57) = X at *
  generalize hj : w1.heap.size = jb at *
  clear hX hj HBA HB1 HO1 HSO1 HPR1 HI1 HPR HI HSO
  refine (linksOf_any pa P pc (some ad) L bc X hP hL HPI.out (fun x hx => by have := HM.out x hx; omega) HPR2.out HI2.out).mono ?_
  rintro e w2 ⟨v, c, l, rfl, hown2, HLK, hll, hb2⟩
  have HJ2 := Lib.hid (HJ0.out.on hb2)
  have HB3 : Hid (Below p w w2) := HB2.out.trans (hb2.mono hsz2)
  have HO2 := Lib.hid (own_base hown2 hsz2)
  have hsz3 : p ≤ w2.heap.size := Nat.le_trans hsz2 hb2.size
  clear hown2 hb2 HJ0 HB2 HPR2 HI2 hsz2
  go_wp2_with fail
  go_loopw [22] (fun i wr => ∃ (k : Nat) (ov : Value), k ≤ l.length ∧ i = .int .i64 k ∧ Hid (JS wr jb B bd L S (fits S bd (l.take k)) lg sg lc sc ov) ∧ Hid (∀ j, ov.ownBlock = some j → p ≤ j ∧ (Value.slice v l.length c).ownBlock ≠ some j) ∧ Hid (wr.ownsRow p 60 3 (.slice v l.length c) l.length (cellsK l)) ∧ Hid (Below p w wr)) (fun i _ => l.length - (intOf i).toNat)
  case atStart => exact ⟨0, .slice none 0 0, Nat.zero_le _, rfl, HJ2, (fun j hj => absurd hj (by simp [Value.ownBlock])), HO2, HB3⟩
  case round =>
    obtain ⟨k, ov, hk, rfl, HJ, HOV, HO, HBW⟩ := hrel
    clear HJ2 HO2 HB3
    by_cases hlk : k < l.length
    · have hlk' : (k : Int) < l.length := by omega
      obtain ⟨g, cg, hv, hg1, _, hgw, _⟩ := own_shape HO.out (fun e => by injection e with _ e2 _; omega)
      injection hv with hv1 _ hv3
      subst hv1 hv3
      obtain ⟨y0, y1, y2⟩ := rowK_atS HO.out k hlk
      have HTS := Lib.hid (take_snocK hlk)
      have HFS := Lib.hid (fits_snoc S bd (l.take k) (l.getD k K.zero))
      rw [← HTS.out] at HFS
      have hfit := HLK.out.fit _ (getD_memK hlk)
      have hmem := pair_mem HPI.out (by rw [← hfit.2.1]; exact hfit.2.2)
      obtain ⟨x, HX⟩ := named (l.getD k K.zero)
      rw [HX.out] at y0 y1 y2 HFS hfit hmem
      have hxa := HM.out _ hmem.1
      have hxb := HM.out _ hmem.2
      have hs1 := HSS.out x.a
      have hs2 := HSS.out x.b
      clear hfit hmem HTS HX
      have HBX : Hid (Below wr.heap.size wr (wr.alloc (.cells #[.int .i64 (x.a : Int), .int .i64 (x.b : Int), .int .i64 (x.n : Int)] 60))) := (Below.refl _ _).alloc (Nat.le_refl _) _
      have hpr : p ≤ wr.heap.size := by have := HBW.out.size; omega
      have HJX := Lib.hid (HJ.out.on HBX.out)
      have HOX := Lib.hid (own_on HO.out HBX.out)
      have HBXW : Hid (Below p w (wr.alloc (.cells #[.int .i64 (x.a : Int), .int .i64 (x.b : Int), .int .i64 (x.n : Int)] 60))) := HBW.out.trans (HBX.out.mono hpr)
      have hgx := heap_top wr (.cells #[.int .i64 (x.a : Int), .int .i64 (x.b : Int), .int .i64 (x.n : Int)] 60)
      obtain ⟨e0, e1, e2⟩ := three_cells hgx
      have hXs : p ≤ (wr.alloc (.cells #[.int .i64 (x.a : Int), .int .i64 (x.b : Int), .int .i64 (x.n : Int)] 60)).heap.size := Nat.le_trans hpr HBX.out.size
      have hgX : g < (wr.alloc (.cells #[.int .i64 (x.a : Int), .int .i64 (x.b : Int), .int .i64 (x.n : Int)] 60)).heap.size := Nat.lt_of_lt_of_le hgw HBX.out.size
      clear hgx
      have HOF := Lib.hid (offer_any jb B bd L S (fits S bd (l.take k)) lg sg lc sc ov x _ HJX.out hxa hxb (by omega) hbd (by have h1 := fits_len S bd (l.take k); rw [List.length_take] at h1; omega) (Nat.le_trans hB hXs))
      have HXV : Hid (x.val = .agg #[.int .i64 (x.a : Int), .int .i64 (x.b : Int), .int .i64 (x.n : Int)]) := rfl
      rw [HXV.out, ← HFS.out] at HOF
      have hjg : jb ≠ g := fun e => by
        obtain ⟨cur, hc⟩ := own_block HO.out (k := g) rfl
        have := (e ▸ HJ.out.hd).symm.trans hc
        injection this with this
        injection this with _ this
        cases this
      go_wp2_with fail
      refine HOF.out.mono ?_
      rintro e w5 ⟨rfl, ov5, hj5, hf5, hob5⟩
      have HJ5 := Lib.hid hj5
      have HO5 := Lib.hid (own_frQ HOX.out hf5 (fun j hj => by
        injection hj with hj
        have hj : g = j := hj
        subst hj
        rintro (e | e)
        · exact hjg e.symm
        · exact (HOV.out g e).2 rfl))
      have HB5 : Hid (Below p w w5) := HBXW.out.trans (hf5.below hXs (fun j hj => by
        rcases hj with e | e
        · omega
        · exact (HOV.out j e).1))
      have HV5 : Hid (∀ j, ov5.ownBlock = some j → p ≤ j ∧ (Value.slice (some ⟨g, 0, none⟩) l.length c).ownBlock ≠ some j) := fun j hj => by
        rcases hob5 with e | ⟨i, e, hi⟩
        · exact HOV.out j (e ▸ hj)
        · rw [e] at hj
          injection hj with hj
          subst hj
          refine ⟨by omega, fun e2 => ?_⟩
          injection e2 with e2
          have e2 : g = i := e2
          omega
      clear hj5 hf5 hob5 HOF
      go_wp2_with fail
      exact ⟨⟨k + 1, ov5, by omega, by simp, HJ5, HV5, HO5, HB5⟩, by simp [intOf]; omega⟩
    · obtain rfl : k = l.length := by omega
      have hlk' : ¬ (l.length : Int) < l.length := by omega
      rw [List.take_length] at HJ
      go_wp2_with fail
      go_ret
      exact ⟨jb, rfl, ⟨lg, lc, ov, l, HJ.out, HLK.out, hll⟩, HBW.out⟩
end Go.Proofs.Ytchfccbneedejaa
namespace Go.Proofs.Ytchfccbneedejaa
open Go.RowKit
theorem szL_length (xs : List Int) : (szL xs).length ≤ xs.length := by
  have : ∀ (xs : List Int) (S : List Nat), (xs.foldl (fun S x => szS S x.toNat) S).length ≤ S.length + xs.length := by
    intro xs
    induction xs with
    | nil => intro S; exact Nat.le_refl _
    | cons x r ih =>
      intro S
      have h := ih (szS S x.toNat)
      rw [szS_len] at h
      simp only [List.foldl_cons, List.length_cons]
      split at h <;> omega
  have h := this xs []
  simpa [szL] using h
/-- The bound of the numbers. -/
def cuB : Nat := 2000000
theorem cuB_le : cuB = 2000000 := rfl
set_option maxRecDepth 100000 in
set_option maxHeartbeats 1600000 in
theorem cutUp_ok (n : Nat) (a : Option Addr) (l : List A) (cap : Nat) (ad : Addr) (L : List Nat) (bc B : Nat) (w : World) (hC : chkE n l = 0) (hL : L.length = n) (hT : tdy (ints L) 0 = true) (hB1 : 1 ≤ B) (hB2 : B ≤ 1024) (hr : Arcs w a l) (hi : Ints w (some ad) (ints L)) :
    Calls Try.prog 12 #[.agg #[.int .i64 n, .slice a l.length cap], .slice (some ad) L.length bc, .int .i64 B] w fun e w' => ∃ v c, e = .returned (.tuple #[.slice v (cuL l L B).length c, .int .i64 0]) ∧ w'.ownsRow w.heap.size 3 1 (.slice v (cuL l L B).length c) (cuL l L B).length (cellsI (ints (cuL l L B))) ∧ Below w.heap.size w w' := by
  subst hL
  obtain ⟨h1n, hn, hl, hoa⟩ := chk_zero hC
  have hn' : L.length ≤ 1024 := by omega
  have h1n' : 1 ≤ L.length := by omega
  have HC := Lib.hid hC
  have HCK : Hid (ckE L.length l (ints L) B = 0) := by
    show _ = _
    unfold ckE siE szE
    rw [if_neg (by rw [hC, if_neg (by simp), if_neg (by rw [ints_len]; simp [hT])]; simp), if_neg (by omega)]
  have hb0 : Below w.heap.size w (w.alloc (.cells #[.int .i64 L.length, .slice a l.length cap] 24)) := (Below.refl _ _).alloc (Nat.le_refl _) _
  have hg := heap_top w (.cells #[.int .i64 L.length, .slice a l.length cap] 24)
  have HR := Lib.hid (hr.on hb0)
  have HI := Lib.hid (hi.on hb0)
  have HB0 := Lib.hid hb0
  obtain ⟨S, HS⟩ := named (szL (ints L))
  have hS1 : S.length ≤ 1024 := by rw [← HS.out]; exact Nat.le_trans (szL_length _) (by rw [ints_len]; exact hn')
  have HSV : Hid (∀ k, S.getD k 0 = (vsL L k).length) := fun k => by rw [← HS.out]; exact sz_vs hT k
  have HSL : Hid (∀ k, S.getD k 0 ≤ 1024) := fun k => by rw [← HS.out]; exact Nat.le_trans (szL_le _ k) (by rw [ints_len]; exact hn')
  have HVN : Hid (∀ k, B < S.getD k 0 → vsL L k ≠ []) := fun k hk e => by rw [HSV.out, e] at hk; simp at hk
  have HOL : Hid (∀ k, B < S.getD k 0 → (orL l L k).length = S.getD k 0) := fun k hk => by rw [HSV.out, orL_len hC rfl (HVN.out k hk)]
  have HOC : Hid (∀ k, B < S.getD k 0 → (orL l L k).length + 1 ≤ 1025) := fun k hk => by have h1 := HOL.out k hk; have h2 := HSL.out k; omega
  have HLM : Hid (∀ u, u ∈ L → u ≤ cuB) := fun u hu => by
    obtain ⟨i, hi, rfl⟩ := List.getElem_of_mem hu
    have h := (right_next hT i (by rw [ints_len]; exact hi)).2
    rw [ints_getD hi, Int.toNat_natCast] at h
    have h2 := szL_length ((ints L).take i)
    rw [List.length_take, ints_len] at h2
    have h3 : L.getD i 0 = L[i] := by simp [List.getD, List.getElem?_eq_getElem hi]
    rw [cuB_le]
    omega
  have HNX : Hid (∀ k, k ≤ S.length → (cuS l L S B k).2 ≤ cuB - 1024) := fun k hk => by
    have h := cu_next HOC.out k
    have h2 : k * 1025 ≤ 1024 * 1025 := Nat.mul_le_mul_right _ (by omega)
    rw [cuB_le]
    omega
  have HPM : Hid (∀ k, k ≤ S.length → ∀ u, u ∈ (cuS l L S B k).1 → u ≤ cuB) := fun k hk => cuS_mem HOC.out HLM.out k (by
    have h2 : k * 1025 ≤ 1024 * 1025 := Nat.mul_le_mul_right _ (by omega)
    rw [cuB_le]
    omega)
  have HMEM : Hid (∀ k, B < S.getD k 0 → ∀ v, v ∈ orL l L k → v < L.length) := fun k hk v hv => (orL_mem hC rfl (HVN.out k hk) hv).1
  have HSZ := Lib.hid (scheck_any L.length a l cap (some ad) (ints L) bc B (w.alloc (.cells #[.int .i64 L.length, .slice a l.length cap] 24)) (by omega) (by rw [ints_len]; omega) HR.out HI.out)
  rw [HCK.out, if_pos rfl, HS.out, ints_len] at HSZ
  have HCU : Hid (cuL l L B = tdL (cuS l L S B S.length).1) := by show _ = _; unfold cuL; rw [HS.out]
  obtain ⟨R, HRR⟩ := named (cuL l L B)
  rw [HRR.out]
  rw [HRR.out] at HCU
  obtain ⟨⟨c0, c1⟩, _⟩ := two_cells hg
  have hwz : w.heap.size ≤ (w.alloc (.cells #[.int .i64 L.length, .slice a l.length cap] 24)).heap.size := hb0.size
  clear hb0 hr hi hoa h1n hn hC hT
  generalize hp : w.heap.size = p at *
  go_enter Try.func12, Try.ntmps12
  go_wp2_with fail
  generalize hW : w.alloc (.cells #[.int .i64 L.length, .slice a l.length cap] 24) = W at *
  clear hW
  refine HSZ.out.mono ?_
  rintro e w1 ⟨v1, c1', S', rfl, hown1, rfl, hb1⟩
  have HB1 : Hid (Below p w w1) := HB0.out.trans (hb1.mono hwz)
  have HS1 : Hid (Ints w1 v1 (ints S')) := own_ints hown1 rfl
  have HR1 := Lib.hid (HR.out.on hb1)
  have HI1 := Lib.hid (HI.out.on hb1)
  have hg1 := (hb1.block p (by have := lt_of_block hg; omega)).trans hg
  obtain ⟨⟨d0, d1⟩, _⟩ := two_cells hg1
  have hz1 : p + 1 ≤ w1.heap.size := by have := hb1.size; have := lt_of_block hg; omega
  have HCL := Lib.hid (clone_any ad (ints L) bc w1 (by rw [ints_len]; exact hn') HI1.out)
  rw [ints_len] at HCL
  have HG1 := Lib.hid hg1
  clear hown1 hb1 HSZ hg c0 c1 hg1 HR HI HB0 hwz
  go_wp2_with fail
  refine HCL.out.mono ?_
  rintro e w2 ⟨g, gc, rfl, hown2, hb2⟩
  generalize hq : w1.heap.size = q at *
  have HO2 := Lib.hid hown2
  have HB2 := Lib.hid hb2
  clear hown2 hb2 HCL d0 d1
  go_wp2_with fail
  go_loopw [11, 34] (fun x i wr => ∃ k : Nat, k ≤ S'.length ∧ i = .int .i64 k ∧ x = .int .i64 (((cuS l L S' B k).2 : Nat) : Int) ∧ Hid (wr.ownsRow q 3 1 (.slice (some ⟨g, 0, none⟩) (cuS l L S' B k).1.length gc) (cuS l L S' B k).1.length (cellsI (ints (cuS l L S' B k).1))) ∧ Hid (Below q w1 wr)) (fun x i _ => S'.length - (intOf i).toNat)
  case atStart => exact ⟨0, Nat.zero_le _, rfl, rfl, HO2, HB2⟩
  case round =>
    obtain ⟨k, hk, rfl, rfl, HOR, HBR⟩ := hrel
    have hqr : q ≤ wr.heap.size := hq ▸ HBR.out.size
    have hgr := (HBR.out.block p (by omega)).trans HG1.out
    by_cases hlk : k < S'.length
    · have hlk' : (k : Int) < S'.length := by omega
      obtain ⟨ix, ox, hix⟩ := HS1.out.get
      obtain ⟨rfl, hbl, hat⟩ := hix (by rw [ints_len]; omega)
      have y0 := (HBR.out.cell (p := ⟨ix, ox + k, none⟩) (hq ▸ hbl)).trans (hat k (by rw [ints_len]; exact hlk))
      rw [ints_getD hlk] at y0
      clear hat hix
      have hs1 := HSL.out k
      obtain ⟨s, Hs⟩ := named (S'.getD k 0)
      rw [Hs.out] at y0 hs1
      by_cases hsb : s ≤ B
      · have hsb' : (s : Int) ≤ B := by omega
        have HE : Hid (cuS l L S' B (k + 1) = cuS l L S' B k) := cuS_le (by rw [Hs.out]; exact hsb)
        clear hgr
        go_wp2_with fail
        refine ⟨⟨k + 1, by omega, by simp, by rw [HE.out], by rw [HE.out]; exact HOR, HBR⟩, by simp [intOf]; omega⟩
      · have hsb' : ¬ (s : Int) ≤ B := by omega
        obtain ⟨⟨d0, d1⟩, _⟩ := two_cells hgr
        have hsB : B < S'.getD k 0 := by rw [Hs.out]; omega
        have HOD := Lib.hid (ordered_any L.length a l cap (some ad) L bc k wr HC.out rfl (HVN.out k hsB) (HR1.out.on (hq ▸ HBR.out)) (HI1.out.on (hq ▸ HBR.out)))
        have HML := Lib.hid (HOL.out k hsB)
        have HMM := Lib.hid (HMEM.out k hsB)
        have HCG := Lib.hid (cuS_gt (l := l) (L := L) (S := S') (bd := B) (k := k) (by omega))
        have HPL : Hid ((cuS l L S' B k).1.length = L.length) := cuS_len l L S' B k
        have hnx := HNX.out k hk
        obtain ⟨P, HP⟩ := named (cuS l L S' B k).1
        obtain ⟨nx, Hn⟩ := named (cuS l L S' B k).2
        obtain ⟨M, HM⟩ := named (orL l L k)
        rw [HM.out] at HOD HML HMM HCG
        rw [HP.out] at HOR HPL HCG
        rw [Hn.out] at hnx HCG ⊢
        rw [Hs.out] at HML
        rw [HPL.out] at HOR
        rw [HML.out] at HOD
        have hnx' : nx ≤ 2000000 := by have := cuB_le; omega
        clear hgr hsB hnx
        go_wp2_with fail
        refine HOD.out.mono ?_
        rintro e w3 ⟨v3, c3, rfl, hown3, hb3⟩
        obtain ⟨gm, cm, hv3, hgm, _, _, _⟩ := own_shape hown3 (fun e => by injection e with _ e2; omega)
        obtain ⟨rfl, rfl⟩ : v3 = some ⟨gm, 0, none⟩ ∧ c3 = cm := by injection hv3 with e1 _ e2; exact ⟨e1, e2⟩
        have HO3 := Lib.hid hown3
        have hgq : q ≤ g ∧ g < wr.heap.size := by
          rcases HOR.out.2 with ⟨h, _⟩ | ⟨g', c', cur, h, h2, h3, _⟩
          · cases h
          · injection h with e1; injection e1 with e1; injection e1 with e1; exact ⟨e1 ▸ h2, e1 ▸ lt_of_block h3⟩
        have HP3 : Hid (w3.ownsRow q 3 1 (.slice (some ⟨g, 0, none⟩) L.length gc) L.length (cellsI (ints P))) := by
          refine ⟨HOR.out.1, ?_⟩
          rcases HOR.out.2 with h' | ⟨g', c', cur, h1, h2, h3, h4⟩
          · exact Or.inl h'
          · exact Or.inr ⟨g', c', cur, h1, h2, (hb3.block g' (lt_of_block h3)).trans h3, h4⟩
        have HB3 : Hid (Below q w1 w3) := HBR.out.trans (hb3.mono hqr)
        clear hown3 hb3 HOD hv3 d0 d1 HBR HOR y0
        go_wp2_with fail
        go_loopw [54] (fun i wi => ∃ t : Nat, t ≤ s ∧ i = .int .i64 t ∧ Hid (wi.ownsRow q 3 1 (.slice (some ⟨g, 0, none⟩) (asg P M nx B t).length gc) (asg P M nx B t).length (cellsI (ints (asg P M nx B t)))) ∧ Hid (wi.ownsRow wr.heap.size 3 1 (.slice (some ⟨gm, 0, none⟩) M.length c3) M.length (cellsI (ints M))) ∧ Hid (Below q w1 wi)) (fun i _ => s - (intOf i).toNat)
        case atStart => exact ⟨0, Nat.zero_le _, rfl, by rw [asg_len, HPL.out]; exact HP3, by rw [HML.out]; exact HO3, HB3⟩
        case round =>
          obtain ⟨t, ht, rfl, HPT, HMT, HBT⟩ := hrel
          by_cases hlt : t < s
          · have hlt' : (t : Int) < s := by omega
            have y0 := own_cellI HMT.out (k := t) (by rw [HML.out]; exact hlt)
            have hv := HMM.out (M.getD t 0) (by have h : t < M.length := (by rw [HML.out]; exact hlt); simp [List.getD, List.getElem?_eq_getElem h])
            obtain ⟨x, HX⟩ := named (M.getD t 0)
            rw [HX.out] at y0 hv
            have y1 := own_cellI HPT.out (k := x) (by rw [asg_len, HPL.out]; exact hv)
            have y2 := World.ownsRow.frozenAt HPT.out x
            have hB0 : ¬ (B : Int) = 0 := by omega
            have hdl : t / B ≤ t := Nat.div_le_self _ _
            have HAE : Hid (asg P M nx B (t + 1) = (asg P M nx B t).set x (nx + t / B)) := by show _ = _; rw [← HX.out]; rfl
            obtain ⟨d, Hd⟩ := named (t / B)
            have hd : (t : Int) / (B : Int) = (d : Int) := by rw [← Hd.out]; exact (Int.natCast_ediv t B).symm
            rw [Hd.out] at hdl HAE
            go_wp2_with fail
            have e : (nx : Int) + (d : Int) = ((nx + d : Nat) : Int) := by omega
            rw [e]
            refine ⟨⟨t + 1, by omega, by simp, ?_, Lib.hid (own_set HMT.out _ _ hgq.2), Lib.hid (HBT.out.setCell hgq.1 _)⟩, by simp [intOf]; omega⟩
            rw [HAE.out]
            exact own_setI HPT.out x (nx + d)
          · obtain rfl : t = s := by omega
            have hlt' : ¬ (t : Int) < t := by omega
            have y0 := own_cellI HMT.out (k := t - 1) (by rw [HML.out]; omega)
            have hv := HMM.out (M.getD (t - 1) 0) (by have h : t - 1 < M.length := (by rw [HML.out]; omega); simp [List.getD, List.getElem?_eq_getElem h])
            have HAL := Lib.hid (asg_last (P := P) (M := M) (nx := nx) (bd := B) (k := t - 1) (by rw [HPL.out]; exact hv))
            rw [show t - 1 + 1 = t by omega] at HAL
            have HML' := Lib.hid HML.out
            rw [HML.out] at HCG
            have hdl : (t - 1) / B ≤ t - 1 := Nat.div_le_self _ _
            obtain ⟨d, Hd⟩ := named ((t - 1) / B)
            rw [Hd.out] at hdl HCG HAL
            obtain ⟨x, HX⟩ := named (M.getD (t - 1) 0)
            rw [HX.out] at y0 hv HAL
            have y1 := own_cellI HPT.out (k := x) (by rw [asg_len, HPL.out]; exact hv)
            rw [HAL.out] at y1
            have hdl' : d + 1 ≤ t := by omega
            clear hdl
            go_wp2_with fail
            refine ⟨⟨k + 1, by omega, by simp, by rw [HCG.out]; simp, ?_, HBT⟩, by simp [intOf]; omega⟩
            rw [HCG.out]
            exact HPT
    · obtain rfl : k = S'.length := by omega
      have hlk' : ¬ (S'.length : Int) < S'.length := by omega
      have HPL : Hid ((cuS l L S' B S'.length).1.length = L.length) := cuS_len l L S' B S'.length
      obtain ⟨P, HP⟩ := named (cuS l L S' B S'.length).1
      have HTD := Lib.hid (tidied_any (some ⟨g, 0, none⟩) P gc wr (by rw [← HP.out, HPL.out]; exact hn') (by rw [← HP.out]; intro x hx; have h := HPM.out _ (Nat.le_refl _) x hx; rw [cuB_le] at h; omega) (by rw [← HP.out]; exact own_ints HOR.out rfl))
      rw [HP.out] at HPL HCU
      rw [HPL.out] at HTD
      clear hgr
      go_wp2_with fail
      refine HTD.out.mono ?_
      rintro e w3 ⟨g3, rfl, hown3, hb3⟩
      rw [tdL_len] at hown3
      rw [← HCU.out] at hown3
      have HRL : Hid (R.length = L.length) := by show _ = _; rw [HCU.out, tdL_len, HPL.out]
      have HO3 := Lib.hid (own_base hown3 (show p ≤ wr.heap.size by omega))
      have HB3 : Hid (Below p w w3) := HB1.out.trans ((HBR.out.mono (by omega)).trans (hb3.mono (by omega)))
      clear hown3 hb3 HTD
      go_wp2_with fail
      go_ret2
      refine ⟨some ⟨g3, 0, none⟩, L.length, by rw [HRL.out]; rfl, ?_, HB3.out⟩
      have h := HO3.out
      rw [HPL.out] at h
      rw [HRL.out]
      exact h
theorem ckE_zero {N : Int} {l : List A} {xs : List Int} {bd : Int} (h : ckE N l xs bd = 0) : chkE N l = 0 ∧ (xs.length : Int) = N ∧ tdy xs 0 = true ∧ 1 ≤ bd ∧ bd ≤ 1024 := by
  unfold ckE at h
  by_cases h1 : siE N l xs ≠ 0
  · rw [if_pos h1] at h; exact absurd h h1
  · rw [if_neg h1] at h
    have h1' : siE N l xs = 0 := by omega
    unfold siE at h1'
    by_cases h2 : chkE N l ≠ 0
    · rw [if_pos h2] at h1'; exact absurd h1' h2
    · rw [if_neg h2] at h1'
      unfold szE at h1'
      split at h1'
      · cases h1'
      · rename_i h3
        split at h
        · cases h
        · rename_i h4
          refine ⟨by omega, ?_, ?_, by omega, by omega⟩
          · rcases Decidable.em ((xs.length : Int) = N) with h5 | h5
            · exact h5
            · exact absurd (.inl h5) h3
          · rcases h6 : tdy xs 0 with _ | _
            · exact absurd (.inr h6) h3
            · rfl
set_option maxRecDepth 100000 in
set_option maxHeartbeats 1600000 in
theorem cutUp_any (N : Int) (a : Option Addr) (l : List A) (cap : Nat) (b : Option Addr) (xs : List Int) (bc : Nat) (bd : Int) (w : World) (hl : l.length ≤ 9223372036854775807) (hx : xs.length ≤ 9223372036854775807) (hr : Arcs w a l) (hi : Ints w b xs) :
    Calls Try.prog 12 #[.agg #[.int .i64 N, .slice a l.length cap], .slice b xs.length bc, .int .i64 bd] w fun e w' => ∃ v c P, e = .returned (.tuple #[.slice v P.length c, .int .i64 (ckE N l xs bd)]) ∧ w'.ownsRow w.heap.size 3 1 (.slice v P.length c) P.length (cellsI (ints P)) ∧ P = (if ckE N l xs bd = 0 then cuL l (xs.map Int.toNat) bd.toNat else []) ∧ Below w.heap.size w w' := by
  by_cases h0 : ckE N l xs bd = 0
  · obtain ⟨h1, h2, h3, h4, h5⟩ := ckE_zero h0
    obtain ⟨L, HL⟩ := named (xs.map Int.toNat)
    have e1 : xs = ints L := by rw [← HL.out]; exact right_ints h3
    have e2 : L.length = xs.length := by rw [← HL.out, List.length_map]
    obtain ⟨B, rfl⟩ : ∃ B : Nat, bd = (B : Int) := ⟨bd.toNat, by omega⟩
    rw [if_pos h0, h0, HL.out, Int.toNat_natCast]
    obtain rfl : N = ((xs.length : Nat) : Int) := h2.symm
    have h6 := (chk_zero h1).1
    obtain ⟨ad, rfl⟩ : ∃ ad, b = some ad := by
      rcases hi with rfl | ⟨g, o, hab, _⟩
      · simp at h6
      · exact ⟨_, hab⟩
    rw [e1] at hi h3
    refine ((e2 ▸ cutUp_ok L.length a l cap ad L bc B w (e2 ▸ h1) rfl h3 (by omega) (by omega) hr hi :)).mono ?_
    rintro e w' ⟨v, c, rfl, ho, hb⟩
    exact ⟨v, c, _, rfl, ho, rfl, hb⟩
  · rw [if_neg h0]
    have hb0 : Below w.heap.size w (w.alloc (.cells #[.int .i64 N, .slice a l.length cap] 24)) := (Below.refl _ _).alloc (Nat.le_refl _) _
    have hg := heap_top w (.cells #[.int .i64 N, .slice a l.length cap] 24)
    have HB0 := Lib.hid hb0
    have hwz : w.heap.size ≤ (w.alloc (.cells #[.int .i64 N, .slice a l.length cap] 24)).heap.size := hb0.size
    have HSZ := Lib.hid (scheck_any N a l cap b xs bc bd (w.alloc (.cells #[.int .i64 N, .slice a l.length cap] 24)) hl hx (hr.on hb0) (hi.on hb0))
    rw [if_neg h0] at HSZ
    obtain ⟨E, HE⟩ := named (ckE N l xs bd)
    rw [HE.out] at HSZ h0 ⊢
    clear hb0 hr hi
    generalize hp : w.heap.size = p at *
    obtain ⟨⟨c0, c1⟩, _⟩ := two_cells hg
    go_enter Try.func12, Try.ntmps12
    go_wp2_with fail
    generalize hW : w.alloc (.cells #[.int .i64 N, .slice a l.length cap] 24) = W at *
    clear hW
    refine HSZ.out.mono ?_
    rintro e w1 ⟨v1, c1', S', rfl, hown1, rfl, hb1⟩
    have HB1 : Hid (Below p w w1) := HB0.out.trans (hb1.mono hwz)
    have e1 : (E != 0) = true := by simpa using h0
    clear hown1 hb1 HSZ hg c0 c1
    go_wp2_with fail
    go_ret2
    exact ⟨none, 0, [], rfl, World.ownsRow_nil _ _ _ _, rfl, HB1.out⟩
end Go.Proofs.Ytchfccbneedejaa
namespace Go.Proofs
open Go.Shelf
def Try.sortP_ren : Go.Shelf.Ren := ⟨fun | 6 => 45 | 15 => 67 | 14 => 66 | 28 => 89 | 29 => 90 | 20 => 81 | 21 => 82 | 22 => 83 | 23 => 84 | 24 => 85 | 25 => 86 | 26 => 87 | 27 => 88 | 46 => 94 | 47 => 95 | 48 => 96 | 49 => 97 | 50 => 98 | 57 => 101 | n => n, fun | 22 => 38 | 24 => 42 | 25 => 65 | 3 => 3 | 39 => 89 | 0 => 0 | 53 => 47 | 55 => 118 | 4 => 4 | 46 => 111 | 45 => 110 | 50 => 73 | 5 => 5 | 9 => 9 | 66 => 122 | 70 => 126 | 76 => 130 | 77 => 131 | n => n, fun | n => n⟩
theorem Try.sortP : Go.Proofs.SlLaysF0.n6 Try.prog Try.sortP_ren := {
  mixed := by kernel_rfl
  f6 := ⟨Try.f45.name, by decide, Try.func45.trans (congrArg some (by kernel_rfl))⟩
  f14 := ⟨Try.f66.name, by decide, Try.func66.trans (congrArg some (by kernel_rfl))⟩
  f15 := Try.func67.trans (congrArg some (by kernel_rfl))
  f20 := ⟨Try.f81.name, by decide, Try.func81.trans (congrArg some (by kernel_rfl))⟩
  f21 := ⟨Try.f82.name, by decide, Try.func82.trans (congrArg some (by kernel_rfl))⟩
  f22 := ⟨Try.f83.name, by decide, Try.func83.trans (congrArg some (by kernel_rfl))⟩
  f23 := ⟨Try.f84.name, by decide, Try.func84.trans (congrArg some (by kernel_rfl))⟩
  f24 := ⟨Try.f85.name, by decide, Try.func85.trans (congrArg some (by kernel_rfl))⟩
  f25 := ⟨Try.f86.name, by decide, Try.func86.trans (congrArg some (by kernel_rfl))⟩
  f26 := ⟨Try.f87.name, by decide, Try.func87.trans (congrArg some (by kernel_rfl))⟩
  f27 := ⟨Try.f88.name, by decide, Try.func88.trans (congrArg some (by kernel_rfl))⟩
  f28 := Try.func89.trans (congrArg some (by kernel_rfl))
  f29 := Try.func90.trans (congrArg some (by kernel_rfl))
  f46 := ⟨Try.f94.name, by decide, Try.func94.trans (congrArg some (by kernel_rfl))⟩
  f47 := Try.func95.trans (congrArg some (by kernel_rfl))
  f48 := Try.func96.trans (congrArg some (by kernel_rfl))
  f49 := ⟨Try.f97.name, by decide, Try.func97.trans (congrArg some (by kernel_rfl))⟩
  f50 := ⟨Try.f98.name, by decide, Try.func98.trans (congrArg some (by kernel_rfl))⟩
  f57 := ⟨Try.f101.name, by decide, Try.func101.trans (congrArg some (by kernel_rfl))⟩
  t0 := Try.underlying0
  a0 := Try.isAgg0
  z0 := Try.sizeOf0
  v0 := Try.zeroValue0
  t3 := Try.underlying3
  a3 := Try.isAgg3
  z3 := Try.sizeOf3
  v3 := Try.zeroValue3
  t4 := Try.underlying4
  a4 := Try.isAgg4
  z4 := Try.sizeOf4
  v4 := Try.zeroValue4
  t5 := Try.underlying5
  a5 := Try.isAgg5
  z5 := Try.sizeOf5
  v5 := Try.zeroValue5
  t9 := Try.underlying9
  a9 := Try.isAgg9
  z9 := Try.sizeOf9
  v9 := Try.zeroValue9
  t22 := Try.underlying38
  a22 := Try.isAgg38
  z22 := Try.sizeOf38
  v22 := Try.zeroValue38
  t25 := Try.underlying65
  a25 := Try.isAgg65
  z25 := Try.sizeOf65
  v25 := Try.zeroValue65
  t39 := Try.underlying89
  a39 := Try.isAgg89
  z39 := Try.sizeOf89
  v39 := Try.zeroValue89
  t45 := Try.underlying110
  a45 := Try.isAgg110
  z45 := Try.sizeOf110
  v45 := Try.zeroValue110
  t46 := Try.underlying111
  a46 := Try.isAgg111
  z46 := Try.sizeOf111
  v46 := Try.zeroValue111
  t50 := Try.underlying73
  a50 := Try.isAgg73
  z50 := Try.sizeOf73
  v50 := Try.zeroValue73
  t53 := Try.underlying47
  a53 := Try.isAgg47
  z53 := Try.sizeOf47
  v53 := Try.zeroValue47
  t55 := Try.underlying118
  a55 := Try.isAgg118
  z55 := Try.sizeOf118
  v55 := Try.zeroValue118
  t66 := Try.underlying122
  a66 := Try.isAgg122
  z66 := Try.sizeOf122
  v66 := Try.zeroValue122
  t70 := Try.underlying126
  a70 := Try.isAgg126
  z70 := Try.sizeOf126
  v70 := Try.zeroValue126
  t76 := Try.underlying130
  a76 := Try.isAgg130
  z76 := Try.sizeOf130
  v76 := Try.zeroValue130
  t77 := Try.underlying131
  a77 := Try.isAgg131
  z77 := Try.sizeOf131
  v77 := Try.zeroValue131 }
end Go.Proofs
namespace Go.Proofs.Ytchfccbneedejaa
open Go.RowKit
open Go.Sort (Holds HoldsK flatK putRow putRowK putCells mapBlock onCells grow heap_grow_old get_flatK size_flatK)
theorem flat_at (d : List Pr) {j : Nat} (hj : j < d.length * 2) : (cellsP d)[j]? = some ((flatK encP 2 d.toArray)[j]!) := by
  rw [get_flatK _ _ _ _ (by simpa using hj)]
  obtain ⟨i, hi⟩ : ∃ i, j = i * 2 ∨ j = i * 2 + 1 := ⟨j / 2, by omega⟩
  obtain ⟨q1, q2⟩ := cellsP_at d i (by omega)
  have e : (d.toArray)[j / 2]! = d.getD i Pr.zero := by
    rw [show j / 2 = i by omega]
    have hi' : i < d.length := by omega
    simp [List.getD, hi', getElem!_pos]
  rw [e]
  rcases hi with rfl | rfl
  · rw [q1, show i * 2 % 2 = 0 by omega]; rfl
  · rw [q2, show (i * 2 + 1) % 2 = 1 by omega]; rfl
theorem holds_P {w : World} {B g c : Nat} {d : List Pr} (h : OwnP w B (some ⟨g, 0, none⟩) c d) : HoldsK encP 2 w g 0 d.toArray := by
  intro j hj
  rw [size_flatK] at hj
  have hj' : j < d.length * 2 := by simpa using hj
  refine ⟨?_, h.frozenAt _⟩
  rw [Nat.zero_add, World.ownsRow.cellAt h j (by omega), flat_at d hj']
  rfl
theorem own_sorted {w : World} {B g c q : Nat} {os : Array Obj} {d e : List Pr} (h : OwnP w B (some ⟨g, 0, none⟩) c d) (he : e.length = d.length) : OwnP (sortWorldK encP 2 w g 0 q e.toArray os) B (some ⟨g, 0, none⟩) c e := by
  unfold OwnP
  rw [he]
  rcases h.2 with ⟨e0, _⟩ | ⟨g', cap', cur, e0, hb, hg, hn, hm, hs, ht⟩
  · cases e0
  · injection e0 with e1 _ e3
    injection e1 with e1
    injection e1 with e1
    subst e1; subst e3
    have hlt : g < w.heap.size := lt_of_block hg
    refine ⟨by rw [cellsP_len, he], .inr ⟨g, c, putCells id 0 (flatK encP 2 e.toArray) cur, rfl, hb, ?_, hn, hm, by simpa [putCells] using hs, ?_⟩⟩
    · unfold sortWorldK putRowK
      rw [heap_grow_old _ _ (by simpa [putRow, mapBlock, Sort.ahead] using hlt)]
      simp [putRow, mapBlock, Sort.ahead, Array.getElem?_modify, hg, onCells]
    · apply List.ext_getElem?
      intro j
      rw [List.getElem?_take, Array.getElem?_toList]
      by_cases hj : j < d.length * 2
      · have hjc : j < cur.size := by omega
        rw [if_pos hj, flat_at e (by omega)]
        simp only [putCells, Array.getElem?_mapIdx, Array.getElem?_eq_getElem hjc, Option.map_some]
        rw [if_pos ⟨by omega, by simp; omega⟩]
        simp
      · rw [if_neg hj, List.getElem?_eq_none (by rw [cellsP_len]; omega)]
theorem sorted_fr {w : World} {g q : Nat} {os : Array Obj} {e : Array Pr} : Fr (fun j => j = g) w (sortWorldK encP 2 w g 0 q e os) := by
  unfold sortWorldK putRowK
  refine ⟨rfl, rfl, rfl, by simp [grow, putRow, mapBlock, Sort.ahead], fun j hj hn => ?_⟩
  rw [heap_grow_old _ _ (by simpa [putRow, mapBlock, Sort.ahead] using hj)]
  simp [putRow, mapBlock, Sort.ahead, Array.getElem?_modify, Ne.symm hn]
theorem swoP : Sort.SWO (ltOf cmpP) where
  irrefl x := by unfold ltOf; rw [decide_eq_false_iff_not, cmpP_lt]; exact ltP_irrefl x
  trans x y z h1 h2 := by
    unfold ltOf at *
    rw [decide_eq_true_eq, cmpP_lt] at *
    exact ltP_trans h1 h2
  ntrans x y z h1 h2 := by
    unfold ltOf at *
    rw [decide_eq_false_iff_not, cmpP_lt] at *
    unfold ltP at *; omega
theorem cmpLaysP (g size : Nat) (w : World) : CmpLays Try.prog 46 #[] encP 2 cmpP g 0 size w := by
  intro m os dk _ x y
  refine (inOrder_any x y _).mono ?_
  rintro e w' ⟨he, n, os', hw⟩
  exact ⟨he, n, os', hw⟩
theorem isAgg41 : ∀ w, (isAgg 42).run Try.prog w = .ok true w := Try.isAgg42
theorem sizeOf41 : ∀ w, (Go.sizeOf 42).run Try.prog w = .ok 2 w := Try.sizeOf42
theorem sortP_any {w : World} {B g c : Nat} {d : List Pr} (h : OwnP w B (some ⟨g, 0, none⟩) c d) (hb : d.length < 4611686018427387904) :
    Calls Try.prog 45 #[.slice (some ⟨g, 0, none⟩) d.length c, .func (.func 46) #[] #[]] w fun e w' => e = .returned (.tuple #[]) ∧ ∃ d', d'.length = d.length ∧ (∀ x, x ∈ d' ↔ x ∈ d) ∧ d'.Pairwise (fun x y => ¬ ltP y x) ∧ OwnP w' B (some ⟨g, 0, none⟩) c d' ∧ Fr (fun j => j = g) w w' := by
  have eg : ∀ args w, (callFunc 46 args).run Try.prog w = .ok (.enter 46 args) w := enters_of Try.func46 (by kernel_rfl) rfl
  have hlt : g < w.heap.size := by
    rcases h.2 with ⟨e, _⟩ | ⟨g', c', cur, e, _, hg, _⟩
    · cases e
    · injection e with e1 _ _
      injection e1 with e1
      injection e1 with e1
      subst e1
      exact lt_of_block hg
  have hcon := AnyQ.slices_SortFunc Try.sortP 2 isAgg41 sizeOf41 encP (fun _ => rfl) (fun x v hv => by simp [encP] at hv; rcases hv with rfl | rfl <;> rfl) cmpP swoP 46 #[] g 0 c d.toArray w eg (cmpLaysP g _ w) (holds_P h) hlt (by simpa using hb)
  have hcon2 : Calls Try.prog 45 #[.slice (some ⟨g, 0, none⟩) d.length c, .func (.func 46) #[] #[]] w _ := hcon
  refine hcon2.mono ?_
  rintro e w' ⟨he, d', n, os, hp, hs, rfl⟩
  obtain ⟨p1, _, p3⟩ := hp
  have hsz : d'.size = d.length := by simpa using p1
  have hperm : d'.toList.Perm d := by
    have e1 : d'.extract 0 d.toArray.size = d' := by rw [← p1]; simp
    have e2 : d.toArray.extract 0 d.toArray.size = d.toArray := by simp
    rw [e1, e2] at p3
    simpa using p3
  refine ⟨he, d'.toList, by simpa using hsz, fun x => hperm.mem_iff, ?_, ?_, sorted_fr⟩
  · rw [List.pairwise_iff_getElem]
    intro i j hi hj hij
    have hi' : i < d'.size := by simpa using hi
    have hj' : j < d'.size := by simpa using hj
    have := hs i j (Nat.zero_le _) hij (by simpa [hsz] using hj')
    unfold ltOf at this
    rw [decide_eq_false_iff_not, cmpP_lt, getElem!_pos d' j hj', getElem!_pos d' i hi'] at this
    simpa using this
  · have := own_sorted (q := n) (os := os) (e := d'.toList) h (by simpa using hsz)
    simpa using this
end Go.Proofs.Ytchfccbneedejaa
namespace Go.Proofs.Ytchfccbneedejaa
open Go.RowKit
theorem sortNone_any (w : World) : Calls Try.prog 45 #[.slice none 0 0, .func (.func 46) #[] #[]] w fun e w' => e = .returned (.tuple #[]) ∧ w' = w := AnyF.slices_SortFunc_none { Try.sortP with } none 0 _ w
set_option maxHeartbeats 400000 in
theorem compactNone_any (w : World) : Calls Try.prog 47 #[.slice none 0 0] w fun e w' => e = .returned (.slice none 0 0) ∧ w' = w := by
  go_enter Try.func47, Try.ntmps47
  go_wp2_with fail
  go_ret
  exact ⟨rfl, rfl⟩
/-- What is sorted, made short. -/
theorem prl_of {l : List A} {d : List Pr} (hm : ∀ x, x ∈ d ↔ x ∈ pq l) (hs : d.Pairwise (fun x y => ¬ ltP y x)) : ddk d d.length = prl l := by
  obtain ⟨h1, h2⟩ := ddk_inv hs _ (Nat.le_refl _)
  refine sorted_one h1 (prl_sorted l) (fun x => ?_)
  have h3 := (ddk_inv (srtP_sorted (pq l)) _ (Nat.le_refl _)).2 x
  unfold prl
  rw [h2, h3, List.take_length, List.take_length, srtP_mem, hm]
theorem news1 (w : World) (x y : Nat) : ∀ j u, (cellsP [⟨x, y⟩])[j]? = some u → (w.alloc (.cells #[.int .i64 (x : Int), .int .i64 (y : Int)] 42)).cell? ((⟨w.heap.size, 0, none⟩ : Addr).add j) = some u := by
  intro j u hu
  have h := heap_top w (.cells #[.int .i64 (x : Int), .int .i64 (y : Int)] 42)
  rw [Go.WideShapes.add_plain, Nat.zero_add]
  generalize w.alloc (.cells #[.int .i64 (x : Int), .int .i64 (y : Int)] 42) = W at *
  generalize w.heap.size = b at *
  match j, hu with
  | 0, hu => simp [cellsP] at hu; subst hu; simp [World.cell?, h]
  | 1, hu => simp [cellsP] at hu; subst hu; simp [World.cell?, h]
  | j + 2, hu => simp [cellsP] at hu
theorem take_snocA {p : List A} {k : Nat} (h : k < p.length) : p.take (k + 1) = p.take k ++ [p.getD k A.zero] := by
  rw [List.take_succ_eq_append_getElem h]
  simp [List.getD, List.getElem?_eq_getElem h]
set_option maxRecDepth 100000 in
set_option maxHeartbeats 1600000 in
theorem pairs_any (N : Int) (a : Option Addr) (l : List A) (cap : Nat) (w : World) (hl : l.length ≤ 9223372036854775807) (hr : Arcs w a l) :
    Calls Try.prog 23 #[.agg #[.int .i64 N, .slice a l.length cap]] w fun e w' => ∃ v c xs, e = .returned (.tuple #[.slice v xs.length c, .int .i64 (chkE N l)]) ∧ OwnP w' w.heap.size v c xs ∧ xs = (if chkE N l = 0 then prl l else []) ∧ Below w.heap.size w w' := by
  have hb0 : Below w.heap.size w (w.alloc (.cells #[.int .i64 N, .slice a l.length cap] 24)) := (Below.refl _ _).alloc (Nat.le_refl _) _
  have hg := heap_top w (.cells #[.int .i64 N, .slice a l.length cap] 24)
  have hr2 := hr.on hb0
  have hsz : w.heap.size ≤ (w.alloc (.cells #[.int .i64 N, .slice a l.length cap] 24)).heap.size := hb0.size
  obtain ⟨C, HC⟩ := named (chkE N l)
  obtain ⟨AT, HAT⟩ := named (chkAt N l)
  rw [HC.out]
  have HAR := Lib.hid hr
  generalize hp : w.heap.size = p at *
  go_enter Try.func23, Try.ntmps23
  go_wp2_with fail
  generalize hW : w.alloc (.cells #[.int .i64 N, .slice a l.length cap] 24) = W at *
  refine (check_any N a l cap W hl hr2).mono ?_
  rintro e w1 ⟨rfl, hb1⟩
  rw [HC.out, HAT.out]
  have hg1 := (hb1.block _ (lt_of_block hg)).trans hg
  have HB1 : Hid (Below p w w1) := hb0.trans (hb1.mono hsz)
  obtain ⟨⟨g0, g1⟩, _⟩ := two_cells hg1
  clear hb1 hg hb0 hr2 hW hsz
  by_cases he : C = 0
  · have he2 : (C != 0) = false := by simp [he]
    obtain ⟨hN1, hN2, hlb, hpo⟩ := chk_zero (HC.out.trans he)
    have HPO := Lib.hid hpo
    obtain ⟨i0, hi, hz0, hz1, hz2⟩ := info_parts info41
    obtain ⟨ba, oa, hab⟩ : ∃ b o, 0 < l.length → a = some ⟨b, o, none⟩ ∧ b < w.heap.size ∧ ∀ j, j < l.length → (l.getD j A.zero).at w b (o + j * 3) := by
      rcases HAR.out with rfl | ⟨b, o, h⟩
      · exact ⟨0, 0, fun h => absurd h (by simp)⟩
      · exact ⟨b, o, fun _ => h⟩
    have HAB := Lib.hid hab
    have hpw1 : p < w1.heap.size := lt_of_block hg1
    clear hab hpo
    go_wp2_with fail
    go_loopw [6, 20] (fun s6 i wr => ∃ (k : Nat) (av : Option Addr) (cv len : Nat), k ≤ l.length ∧ i = .int .i64 k ∧ s6 = .slice av len cv ∧ Hid ((pq (l.take k)).length = len) ∧ Hid (len = 0 → av = none ∧ cv = 0) ∧ Hid (wr.ownsRow (p + 1) 42 2 (.slice av len cv) len (cellsP (pq (l.take k)))) ∧ Hid (Below (p + 1) w1 wr)) (fun _ i _ => l.length - (intOf i).toNat)
    case atStart => exact ⟨0, none, 0, 0, Nat.zero_le _, rfl, rfl, rfl, fun _ => ⟨rfl, rfl⟩, World.ownsRow_nil _ _ _ _, Below.refl _ _⟩
    case round =>
      obtain ⟨k, av, cv, len, hk, rfl, rfl, HLN, HNL, HOW, HBR⟩ := hrel
      have hgr := (HBR.out.block p (by omega)).trans hg1
      have HBW : Hid (Below p w wr) := HB1.out.trans (HBR.out.mono (by omega))
      have hwr : w1.heap.size ≤ wr.heap.size := HBR.out.size
      by_cases hlt : k < l.length
      · obtain ⟨rfl, hbl, hat⟩ := HAB.out (by omega)
        have hlt' : (k : Int) < l.length := by omega
        obtain ⟨x0, x1, x2⟩ := (hat k hlt).on (by rw [hp]; exact HBW.out)
        have HTS := Lib.hid (take_snocA hlt)
        have HME := Lib.hid (HPO.out (l.getD k A.zero) (by simp [List.getD, List.getElem?_eq_getElem hlt]))
        have hlen : len ≤ 8192 := by rw [← HLN.out]; exact Nat.le_trans (pq_len _) (by rw [List.length_take]; omega)
        clear hat
        generalize l.getD k A.zero = x at *
        obtain ⟨⟨f0, f1⟩, t0, t1⟩ := HME.out
        have HPS := Lib.hid (pq_snoc (l.take k) x)
        obtain ⟨xf, xt, xw⟩ := x
        obtain ⟨f, hf⟩ : ∃ f : Nat, xf = f := ⟨xf.toNat, by have : 0 ≤ xf := f0; omega⟩
        obtain ⟨t, ht⟩ : ∃ t : Nat, xt = t := ⟨xt.toNat, by have : 0 ≤ xt := t0; omega⟩
        subst hf ht
        clear f0 f1 t0 t1 HME
        by_cases hft : f = t
        · subst hft
          have hne : ((f : Int) != (f : Int)) = false := by simp
          have HE2 : Hid (pq (l.take (k + 1)) = pq (l.take k)) := by show _ = _; rw [HTS.out, HPS.out, if_pos rfl]
          go_wp2_with fail
          refine ⟨⟨k + 1, av, cv, len, by omega, by simp, rfl, ?_, HNL, ?_, HBR.out.alloc (by omega) _⟩, by simp [intOf]; omega⟩
          · rw [HE2.out]; exact HLN
          · rw [HE2.out]; exact HOW.out.alloc _
        · have hne : ((f : Int) != (t : Int)) = true := by simp; omega
          obtain ⟨mn, hmn1, hmn2⟩ : ∃ mn : Nat, min (f : Int) (t : Int) = (mn : Int) ∧ mn = min f t := ⟨min f t, by omega, rfl⟩
          obtain ⟨mx, hmx1, hmx2⟩ : ∃ mx : Nat, max (f : Int) (t : Int) = (mx : Int) ∧ mx = max f t := ⟨max f t, by omega, rfl⟩
          have HE2 : Hid (pq (l.take (k + 1)) = pq (l.take k) ++ [⟨mn, mx⟩]) := by
            show _ = _
            rw [HTS.out, HPS.out, if_neg (by show ¬ (f : Int) = (t : Int); omega), hmn2, hmx2]
            congr 2
            exact pr_ext (by show (min (f : Int) t).toNat = min f t; omega) (by show (max (f : Int) t).toNat = max f t; omega)
          clear hmn2 hmx2
          have hrw : p + 1 ≤ wr.heap.size := by omega
          have HNW : Hid (∀ j u, (cellsP [⟨mn, mx⟩])[j]? = some u → ((wr.alloc (.cells #[.int .i64 (f : Int), .int .i64 (t : Int), .int .u32 xw] 49)).alloc (.cells #[.int .i64 (mn : Int), .int .i64 (mx : Int)] 42)).cell? ((⟨wr.heap.size + 1, 0, none⟩ : Addr).add j) = some u) := by
            have := news1 (wr.alloc (.cells #[.int .i64 (f : Int), .int .i64 (t : Int), .int .u32 xw] 49)) mn mx
            rw [World.size_alloc] at this
            exact this
          have HOW2 : Hid (((wr.alloc (.cells #[.int .i64 (f : Int), .int .i64 (t : Int), .int .u32 xw] 49)).alloc (.cells #[.int .i64 (mn : Int), .int .i64 (mx : Int)] 42)).ownsRow (p + 1) 42 2 (.slice av len cv) len (cellsP (pq (l.take k)))) := (HOW.out.alloc _).alloc _
          have HBS : Hid (p + 1 ≤ ((wr.alloc (.cells #[.int .i64 (f : Int), .int .i64 (t : Int), .int .u32 xw] 49)).alloc (.cells #[.int .i64 (mn : Int), .int .i64 (mx : Int)] 42)).heap.size) := by show _ ≤ _; simp; omega
          have HBB : Hid (Below (p + 1) w1 ((wr.alloc (.cells #[.int .i64 (f : Int), .int .i64 (t : Int), .int .u32 xw] 49)).alloc (.cells #[.int .i64 (mn : Int), .int .i64 (mx : Int)] 42))) := (HBR.out.alloc (by omega) _).alloc (by simp; omega) _
          have HOL : Hid (∀ b, (Value.slice av len cv).ownBlock = some b → p + 1 ≤ b) := fun b hb => (HOW.out.lt b hb).1
          have HCA : Hid (cellsP (pq (l.take k)) ++ cellsP [⟨mn, mx⟩] = cellsP (pq (l.take (k + 1)))) := by show _ = _; rw [HE2.out, cellsP_append]
          have HL2 : Hid ((pq (l.take (k + 1))).length = len + 1) := by show _ = _; rw [HE2.out, List.length_append, HLN.out]; rfl
          go_wp2_with (at_builtin; refine wpList_append_own _ rfl (.tmp 29) (.tmp 41) 38 rfl (p + 1) 42 i0 _ 2 16 Try.underlying38 hi hz0 hz1 hz2 rfl (by decide) (.slice av len cv) len (cellsP (pq (l.take k))) rfl HOW2.out ⟨wr.heap.size + 1, 0, none⟩ 1 1 (cellsP [⟨mn, mx⟩]) rfl rfl HNW.out (cellsP_one _) (by unfold maxLen; omega) (by omega) HBS.out ?_; intro v6 w6 hown6 hgrow6 hnil6; obtain ⟨g6, c6, hv6, _, _, _, _⟩ := own_shape hown6 (fun e => by have := hnil6.1 e; simp at this); subst hv6; rw [HCA.out] at hown6; have HO6 := Lib.hid hown6; have HB6 := Lib.hid (HBB.out.grown hgrow6 (by have := HBS.out; omega) (by intro b hb; exact HOL.out b hb)); clear hown6 hgrow6 hnil6)
          exact ⟨⟨k + 1, some ⟨g6, 0, none⟩, c6, len + 1, by omega, by simp, rfl, HL2, fun h => by omega, HO6, HB6⟩, by simp [intOf]; omega⟩
      · have e0 : l.take k = l := List.take_of_length_le (by omega)
        have hlt' : ¬ (k : Int) < l.length := by omega
        rw [e0] at HLN HOW
        clear e0
        by_cases h0 : len = 0
        · obtain ⟨rfl, rfl⟩ := HNL.out h0
          subst h0
          have HPR : Hid (prl l = []) := by
            show _ = _
            have h1 : pq l = [] := List.eq_nil_of_length_eq_zero HLN.out
            unfold prl
            rw [h1]; simp [srtP, ddk]
          go_wp2_with fail
          refine (sortNone_any wr).mono ?_
          rintro e w3 ⟨rfl, rfl⟩
          go_wp2_with fail
          refine (compactNone_any w3).mono ?_
          rintro e w4 ⟨rfl, rfl⟩
          go_wp2_with fail
          go_ret2
          exact ⟨none, 0, [], rfl, World.ownsRow_nil _ _ _ _, by rw [HPR.out], HBW.out⟩
        · obtain ⟨g, c', hv, hgb, hlc, hgl, hcm⟩ := own_shape HOW.out (fun e => by injection e with e1 e2 e3; exact h0 e2)
          injection hv with hv1 _ hv3
          subst hv1 hv3
          have HOP : Hid (OwnP wr (p + 1) (some ⟨g, 0, none⟩) cv (pq l)) := by show World.ownsRow _ _ _ _ _ _ _; rw [HLN.out]; exact HOW.out
          have hpl : (pq l).length < 4611686018427387904 := by have := pq_len l; omega
          have HSO := Lib.hid (sortP_any HOP.out hpl)
          rw [HLN.out] at HSO
          go_wp2_with fail
          refine HSO.out.mono ?_
          rintro e w3 ⟨rfl, d', hdl, hdm, hds, hown3, hf3⟩
          have HPR := Lib.hid (prl_of hdm hds)
          have HCO := Lib.hid (compact_any hown3)
          rw [hdl] at HCO
          have HF3 := Lib.hid hf3
          clear hown3 hf3 HSO hds hdm
          rw [← hdl, HPR.out, hdl] at HCO
          go_wp2_with fail
          refine HCO.out.mono ?_
          rintro e w4 ⟨rfl, hown4, hf4⟩
          have HO4 := Lib.hid hown4
          have HB4 : Hid (Below p w w4) := HBW.out.trans (((HF3.out.trans hf4).below (B := p) (by omega) (fun j e => by have e : j = g := e; omega)))
          clear hown4 hf4 HCO
          go_wp2_with fail
          go_ret2
          exact ⟨some ⟨g, 0, none⟩, cv, prl l, rfl, own_base HO4.out (by omega), by simp, HB4.out⟩
  · have he2 : (C != 0) = true := by simp [he]
    go_wp2_with fail
    go_ret2
    exact ⟨none, 0, [], rfl, World.ownsRow_nil _ _ _ _, by simp, HB1.out⟩
end Go.Proofs.Ytchfccbneedejaa
