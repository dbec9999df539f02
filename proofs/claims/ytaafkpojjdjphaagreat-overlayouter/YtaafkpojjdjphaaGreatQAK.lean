import Derived.Shelf.Slices.CompactI
import Derived.Shelf.Slices.SearchI
import Derived.Test.YtaafkpojjdjphaaGreatQAJ
open Go.Lib (hid)
namespace Go.Proofs
open Go.Shelf
def Tryz.laysNm220_ren : Go.Shelf.Ren := ⟨fun | 20 => 189 | n => n, fun | 22 => 25 | 3 => 3 | 4 => 4 | 0 => 0 | n => n, fun | n => n⟩
theorem Tryz.laysNm220 : Go.Proofs.Lays2.n20 Tryz.prog Tryz.laysNm220_ren := {
 mixed := by kernel_rfl
 f20 := Tryz.func189.trans (congrArg some (by kernel_rfl))
 t0 := Tryz.underlying0
 a0 := Tryz.isAgg0
 z0 := Tryz.sizeOf0
 v0 := Tryz.zeroValue0
 t3 := Tryz.underlying3
 a3 := Tryz.isAgg3
 z3 := Tryz.sizeOf3
 v3 := Tryz.zeroValue3
 t4 := Tryz.underlying4
 a4 := Tryz.isAgg4
 z4 := Tryz.sizeOf4
 v4 := Tryz.zeroValue4
 t22 := Tryz.underlying25
 a22 := Tryz.isAgg25
 z22 := Tryz.sizeOf25
 v22 := Tryz.zeroValue25
 i3 := by kernel_rfl }
open Go.RowKit Go.Lib Go.Sort in
theorem Tryz.slices_Compact_int (blk off cap : Nat) (zs : List Int) (w : World) (hH : Holds (Value.int .i64) w blk off zs.toArray) (hsz : zs.length ≤ 9223372036854775807) (hcap : zs.length ≤ cap) :
  Calls Tryz.prog 189 #[.slice (some ⟨blk, off, none⟩) zs.length cap] w fun e w' => e = .returned (.slice (some ⟨blk, off, none⟩) (Lib.compact zs).length cap) ∧ ∃ q, w' = putRow (Value.int .i64) (Sort.ahead w q) blk off (Lib.compact zs ++ List.replicate (zs.length - (Lib.compact zs).length) 0).toArray := Any.slices_Compact_int Tryz.laysNm220 blk off cap zs w hH hsz hcap
end Go.Proofs
namespace Go.Proofs.YtaafkpojjdjphaaGreat
open Go.RowKit
theorem lt_unique : ∀ {a b : List Int}, a.Pairwise (· < ·) → b.Pairwise (· < ·) → (∀ x, x ∈ a ↔ x ∈ b) → a = b
 | [], [], _, _, _ => rfl
 | [], y :: b, _, _, h => absurd ((h y).2 (by simp)) (by simp)
 | x :: a, [], _, _, h => absurd ((h x).1 (by simp)) (by simp)
 | x :: a, y :: b, ha, hb, h => by
   rw [List.pairwise_cons] at ha hb
   have e : x = y := by
    have h1 : x ∈ y :: b := (h x).1 (by simp)
    have h2 : y ∈ x :: a := (h y).2 (by simp)
    rw [List.mem_cons] at h1 h2
    rcases h1 with h1 | h1
    ·exact h1
    ·rcases h2 with h2 | h2
     ·exact h2.symm
     ·have := hb.1 x h1
      have := ha.1 y h2
      omega
   subst e
   rw [lt_unique ha.2 hb.2 (fun z => ?_)]
   constructor
   ·intro hz
    have h1 := ha.1 z hz
    have h2 := (h z).1 (by simp [hz])
    rw [List.mem_cons] at h2
    exact h2.resolve_left (by omega)
   ·intro hz
    have h1 := hb.1 z hz
    have h2 := (h z).2 (by simp [hz])
    rw [List.mem_cons] at h2
    exact h2.resolve_left (by omega)
theorem cmp_upto {d : Array Int} (hs : ∀ i j, i ≤ j → j < d.size → d[i]! ≤ d[j]!) : ∀ m, m ≤ d.size → (Lib.compactUpTo d m).Pairwise (· < ·) ∧ (∀ x, x ∈ Lib.compactUpTo d m ↔ ∃ j, j < m ∧ d[j]! = x)
 | 0, _ => by simp [Lib.compactUpTo]
 | m + 1, hm => by
   obtain ⟨h1, h2⟩ := cmp_upto hs m (by omega)
   rw [Lib.compactUpTo_succ]
   by_cases hk : Lib.keeps d m = true
   ·rw [if_pos hk]
    have hlt : ∀ x ∈ Lib.compactUpTo d m, x < d[m]! := fun x hx => by
     obtain ⟨j, hj, e⟩ := (h2 x).1 hx
     have h3 := hs (m - 1) m (by omega) (by omega)
     have h4 := hs j (m - 1) (by omega) (by omega)
     have h5 : d[m]! ≠ d[m - 1]! := fun e2 => by
      rw [Lib.keeps_neg (by omega) e2] at hk
      cases hk
     omega
    refine ⟨List.pairwise_append.2 ⟨h1, by simp, fun x hx y hy => by rw [List.mem_singleton] at hy; subst hy; exact hlt x hx⟩, fun x => ?_⟩
    rw [List.mem_append, List.mem_singleton, h2]
    constructor
    ·rintro (⟨j, hj, e⟩ | e)
     ·exact ⟨j, by omega, e⟩
     ·exact ⟨m, by omega, e.symm⟩
    ·rintro ⟨j, hj, e⟩
     by_cases e2 : j = m
     ·subst e2; exact Or.inr e.symm
     ·exact Or.inl ⟨j, by omega, e⟩
   ·rw [if_neg hk, List.append_nil]
    refine ⟨h1, fun x => ?_⟩
    rw [h2]
    constructor
    ·rintro ⟨j, hj, e⟩
     exact ⟨j, by omega, e⟩
    ·rintro ⟨j, hj, e⟩
     by_cases e2 : j = m
     ·subst e2
      have h0 : 0 < j := Nat.pos_of_ne_zero (fun e3 => hk (by rw [e3]; exact Lib.keeps_lt_one d 0 (by omega)))
      refine ⟨j - 1, by omega, ?_⟩
      rw [← e]
      exact Classical.byContradiction fun h => hk (Lib.keeps_pos (fun e3 => h e3.symm))
     ·exact ⟨j, by omega, e⟩
theorem srt_mem (ys : List Int) (x : Int) : x ∈ srt ys ↔ x ∈ ys := by unfold srt; exact List.mem_mergeSort
theorem srt_le (ys : List Int) : (srt ys).Pairwise (· ≤ ·) := by
 have h := List.pairwise_mergeSort (le := fun x y : Int => decide (x ≤ y)) (fun a b c h1 h2 => by simp at h1 h2 ⊢; omega) (fun a b => by simp; omega) ys
 exact h.imp (fun h => by simpa using h)
theorem cmp_srt (ys : List Int) : (Lib.compact (srt ys)).Pairwise (· < ·) ∧ ∀ x, x ∈ Lib.compact (srt ys) ↔ x ∈ ys := by
 have hs : ∀ i j, i ≤ j → j < (srt ys).toArray.size → (srt ys).toArray[i]! ≤ (srt ys).toArray[j]! := fun i j hij hj => by
  have hj' : j < (srt ys).length := by simpa using hj
  have e : ∀ k, k < (srt ys).length → (srt ys).toArray[k]! = (srt ys)[k]! := fun k hk => by simp [hk]
  have e2 : ∀ k (hk : k < (srt ys).length), (srt ys)[k]! = (srt ys)[k] := fun k hk => by simp [hk]
  rw [e i (by omega), e j hj', e2 i (by omega), e2 j hj']
  by_cases h : i = j
  ·subst h; exact Int.le_refl _
  ·exact List.pairwise_iff_getElem.1 (srt_le ys) i j (by omega) hj' (by omega)
 have h := cmp_upto hs (srt ys).length (by simp)
 refine ⟨h.1, fun x => ?_⟩
 show x ∈ Lib.compactUpTo _ _ ↔ _
 rw [h.2, ← srt_mem ys x]
 constructor
 ·rintro ⟨j, hj, e⟩
  rw [← e]
  have e1 : (srt ys).toArray[j]! = (srt ys)[j] := by simp [hj]
  rw [e1]
  exact List.getElem_mem hj
 ·intro hx
  obtain ⟨j, hj, e⟩ := List.getElem_of_mem hx
  exact ⟨j, hj, by simp [hj, e]⟩
def chR (xs ys : List Int) (q : Int) (k : Nat) : List Int := ((List.range k).filter (fun v => decide (ys.getD v 0 = q))).map (fun v => xs.getD v 0)
theorem chR_t {xs ys : List Int} {q : Int} {k : Nat} (h : ys.getD k 0 = q) : chR xs ys q (k + 1) = chR xs ys q k ++ [xs.getD k 0] := by
 unfold chR
 rw [List.range_succ, List.filter_append, List.map_append, List.filter_cons, if_pos (decide_eq_true h)]
 rfl
theorem chR_f {xs ys : List Int} {q : Int} {k : Nat} (h : ¬ ys.getD k 0 = q) : chR xs ys q (k + 1) = chR xs ys q k := by
 unfold chR
 rw [List.range_succ, List.filter_append, List.map_append, List.filter_cons, if_neg (by simpa using h)]
 simp
theorem ch_iffU {xs ys : List Int} (ht : tdy xs 0 = true) (hn : Nst xs ys) (q : Int) {v : Nat} (hv : v < xs.length) : ys.getD v 0 = q ↔ (xs.getD v 0).toNat ∈ chL xs ys q := by
 obtain ⟨h1, h2, h3⟩ := ls_right ht
 obtain ⟨a0, a1⟩ := h3 v hv
 obtain ⟨b0, b1, _⟩ := h2 _ a1
 have e : ys.getD ((lsL xs 0 []).getD (xs.getD v 0).toNat 0) 0 = ys.getD v 0 := hn _ b0 v hv (by omega)
 have hm : (xs.getD v 0).toNat ∈ chL xs ys q ↔ (xs.getD v 0).toNat < (lsL xs 0 []).length ∧ ys.getD ((lsL xs 0 []).getD (xs.getD v 0).toNat 0) 0 = q := by simp [chL, chT]
 rw [hm, e]
 exact ⟨fun h => ⟨a1, h⟩, fun h => h.2⟩
theorem ch_cmp {xs ys : List Int} (ht : tdy xs 0 = true) (hn : Nst xs ys) (hl : ys.length = xs.length) (q : Int) : Lib.compact (srt (chR xs ys q ys.length)) = ints (chL xs ys q) := by
 obtain ⟨h1, h2⟩ := cmp_srt (chR xs ys q ys.length)
 obtain ⟨_, g2, g3⟩ := ls_right ht
 refine lt_unique h1 ?_ (fun x => ?_)
 ·have h3 : (chL xs ys q).Pairwise (· < ·) := List.Pairwise.filter _ List.pairwise_lt_range
  unfold ints
  rw [List.pairwise_map]
  exact h3.imp (fun h => by omega)
 ·rw [h2]
  unfold chR ints
  simp only [List.mem_map, List.mem_filter, List.mem_range, decide_eq_true_eq]
  constructor
  ·rintro ⟨v, ⟨hv, e1⟩, e2⟩
   refine ⟨_, (ch_iffU ht hn q (by omega)).1 e1, ?_⟩
   have := (g3 v (by omega)).1
   omega
  ·rintro ⟨k, hk, e⟩
   have hm : k < (lsL xs 0 []).length ∧ ys.getD ((lsL xs 0 []).getD k 0) 0 = q := by simpa [chL, chT] using hk
   obtain ⟨b0, b1, _⟩ := g2 k hm.1
   exact ⟨_, ⟨by omega, hm.2⟩, by rw [b1]; exact e⟩
theorem compact_any {w : World} {base g n cap : Nat} {ys : List Int} (h : w.ownsRow base 3 1 (.slice (some ⟨g, 0, none⟩) n cap) n (cellsI ys)) (hm : n = ys.length) (hb : ys.length ≤ 1024) :
  Calls Tryz.prog 189 #[.slice (some ⟨g, 0, none⟩) n cap] w fun e w' => e = .returned (.slice (some ⟨g, 0, none⟩) (Lib.compact ys).length cap) ∧ w'.ownsRow base 3 1 (.slice (some ⟨g, 0, none⟩) n cap) n (cellsI (Lib.compact ys ++ List.replicate (ys.length - (Lib.compact ys).length) 0)) ∧ Fr (fun j => j = g) w w' := by
 subst hm
 have hc : ys.length ≤ cap := by
  rcases h.2 with ⟨e, _⟩ | ⟨g2, cap2, cur, e, hb2, hg, hn2, _⟩
  ·cases e
  ·cases e; exact hn2
 have hH := holds_tail (xs := []) (k := 0) h rfl
 refine (Tryz.slices_Compact_int g 0 cap ys w hH (by omega) hc).mono ?_
 rintro e w' ⟨rfl, q, rfl⟩
 have hl : (Lib.compact ys ++ List.replicate (ys.length - (Lib.compact ys).length) (0 : Int)).length = ys.length := by
  have := Lib.compact_length_le ys
  simp
  omega
 have h1 := own_tail (os := #[]) (q := q) (xs := []) (k := 0) h rfl hl
 have h2 := sort_fr (w := w) (g := g) (k := 0) (q := q) (os := #[]) (zs := Lib.compact ys ++ List.replicate (ys.length - (Lib.compact ys).length) 0)
 have e : ∀ X : World, Go.Sort.grow X #[] = X := fun X => by simp [Go.Sort.grow]
 rw [e] at h1 h2
 exact ⟨rfl, h1, h2⟩
def cellsPl (v0 v1 v2 v3 : Value) (lv : Int) : List Nat → List Value
 | [] => []
 | k :: r => v0 :: v1 :: v2 :: v3 :: .int .i64 lv :: .int .i64 (k : Nat) :: cellsPl v0 v1 v2 v3 lv r
theorem cellsPl_len (v0 v1 v2 v3 : Value) (lv : Int) : ∀ r : List Nat, (cellsPl v0 v1 v2 v3 lv r).length = r.length * 6
 | [] => rfl
 | k :: r => by simp [cellsPl, cellsPl_len v0 v1 v2 v3 lv r]; omega
theorem cellsPl_append (v0 v1 v2 v3 : Value) (lv : Int) : ∀ r s : List Nat, cellsPl v0 v1 v2 v3 lv (r ++ s) = cellsPl v0 v1 v2 v3 lv r ++ cellsPl v0 v1 v2 v3 lv s
 | [], s => rfl
 | k :: r, s => by simp [cellsPl, cellsPl_append v0 v1 v2 v3 lv r s]
theorem cellsPl_at (v0 v1 v2 v3 : Value) (lv : Int) : ∀ (r : List Nat) (j : Nat), j < r.length → (cellsPl v0 v1 v2 v3 lv r)[j * 6]? = some v0 ∧ (cellsPl v0 v1 v2 v3 lv r)[j * 6 + 1]? = some v1 ∧ (cellsPl v0 v1 v2 v3 lv r)[j * 6 + 2]? = some v2 ∧ (cellsPl v0 v1 v2 v3 lv r)[j * 6 + 3]? = some v3 ∧ (cellsPl v0 v1 v2 v3 lv r)[j * 6 + 4]? = some (.int .i64 lv) ∧ (cellsPl v0 v1 v2 v3 lv r)[j * 6 + 5]? = some (.int .i64 (r.getD j 0 : Nat))
 | [], _, h => absurd h (by simp)
 | x :: r, 0, _ => ⟨rfl, rfl, rfl, rfl, rfl, rfl⟩
 | x :: r, j + 1, h => by
   have := cellsPl_at v0 v1 v2 v3 lv r j (by simpa using h)
   rw [show (j + 1) * 6 = j * 6 + 6 by omega]
   exact this
theorem infoPl : (Tryz.prog.info? 118).map (fun i => (i.zero, i.size, i.bytes)) = some (some (.agg #[.int .i64 0, .slice none 0 0, .slice none 0 0, .slice none 0 0, .int .i64 0, .int .i64 0]), 6, 96) := by kernel_rfl
set_option maxRecDepth 100000 in
set_option maxHeartbeats 3200000 in
theorem plChildren_any (N : Int) (a : Option Addr) (l : List A) (cap : Nat) (ba : Option Addr) (bs : List Int) (bc : Nat) (ca : Option Addr) (C : List Cl) (cc : Nat) (lv ce : Int) (j : Nat) (w : World) (hE : inE N l bs (csl C) lv ce = 0) (hj : lv = (j : Int) + 2) (hR : Rws w ca C) :
  Calls Tryz.prog 134 #[.agg #[.int .i64 N, .slice a l.length cap, .slice ba bs.length bc, .slice ca C.length cc, .int .i64 lv, .int .i64 ce]] w fun e w' => ∃ v c, e = .returned (.slice v (chL (cl C j).xs (cl C (j + 1)).xs ce).length c) ∧ w'.ownsRow w.heap.size 118 6 (.slice v (chL (cl C j).xs (cl C (j + 1)).xs ce).length c) (chL (cl C j).xs (cl C (j + 1)).xs ce).length (cellsPl (.int .i64 N) (.slice a l.length cap) (.slice ba bs.length bc) (.slice ca C.length cc) ((j : Int) + 1) (chL (cl C j).xs (cl C (j + 1)).xs ce)) ∧ Below w.heap.size w w' := by
 subst hj
 obtain ⟨hNR, j2, q, e1, hj2, rfl, hq⟩ := inE_zero hE
 obtain rfl : j2 = j + 1 := by omega
 have h5 := hNR.2.2.1
 have hcl : C.length = bs.length := by have := hNR.2.2.2.1; rw [csl_len] at this; exact this
 have hN8 := (chk_zero hNR.1).2.1
 obtain ⟨b1, b2, _⟩ := hNR.lv (k := j) (by omega)
 obtain ⟨d1, d2, _⟩ := hNR.lv (k := j + 1) hj2
 have hn := hNR.nst (k := j) hj2
 rw [csl_at] at b1 b2 d1 d2
 rw [csl_at, csl_at] at hn
 obtain ⟨cb, co, hcb⟩ := hR.get
 obtain ⟨rfl, hcbl, hcat⟩ := hcb (by omega)
 have HCA := hid (hcat j (by omega))
 have HCB := hid (hcat (j + 1) (by omega))
 have HXI := hid (hR.2 j (by omega)).1
 have HYI := hid (hR.2 (j + 1) (by omega)).1
 have HCMP := hid (ch_cmp b2 hn (by omega) (q : Int))
 have hK8 : (chL (cl C j).xs (cl C (j + 1)).xs (q : Int)).length ≤ 1024 := by
  have h1 := chT_len (cl C (j + 1)).xs (lsL (cl C j).xs 0 []) (q : Int) (lsL (cl C j).xs 0 []).length
  have h2 := ls_len b2
  have h3 := szL_length (cl C j).xs
  unfold chL
  omega
 have hX8 : (cl C j).xs.length ≤ 1024 := by omega
 have HXY : Hid ((cl C (j + 1)).xs.length = (cl C j).xs.length) := by show _ = _; omega
 have HPOS : Hid (0 < (chR (cl C j).xs (cl C (j + 1)).xs (q : Int) (cl C j).xs.length).length) := by
  obtain ⟨_, g2, _⟩ := ls_right d2
  rw [csl_at] at hq
  obtain ⟨v0, v1, _⟩ := g2 q (by rw [ls_len d2]; exact hq)
  unfold chR
  rw [List.length_map]
  exact List.length_pos_of_mem (List.mem_filter.2 ⟨List.mem_range.2 (by omega), decide_eq_true v1⟩)
 unfold Cl.val at HCA HCB
 obtain ⟨X, HX⟩ := named (cl C j).xs
 obtain ⟨Y, HY⟩ := named (cl C (j + 1)).xs
 rw [HX.out] at HCA HXI HCMP hK8 hX8 HXY HPOS
 rw [HY.out] at HCB HYI HCMP hK8 HXY HPOS
 rw [HX.out, HY.out]
 rw [HXY.out] at HCB HCMP
 obtain ⟨ix, ox, hix⟩ := HXI.out.get
 obtain ⟨iy, oy, hiy⟩ := HYI.out.get
 have HIX := hid hix
 have HIY := hid hiy
 rw [HXY.out] at HIY
 generalize (cl C j).a = xa at *
 generalize (cl C (j + 1)).a = ya at *
 generalize (cl C j).c = xc at *
 generalize (cl C (j + 1)).c = yc at *
 have hjb : (j : Int) + 1 < C.length := by omega
 have hjb0 : (j : Int) < C.length := by omega
 have hjn : j ≤ 5 := by omega
 clear hE hNR b1 b2 d1 d2 hn hR hcb hcat HXI HYI hix hiy hcl h5 hj2 e1 HX HY hN8
 obtain ⟨m, HM⟩ := named X.length
 rw [HM.out] at HCA HCB HCMP hX8 HIX HIY HXY HPOS
 obtain ⟨i3, hi3, hz3, hs3, hby3⟩ := info_parts info3
 obtain ⟨iP, hiP, hzP, hsP, hbyP⟩ := info_parts infoPl
 have e2 : (j : Int) + 2 - 2 = j := by omega
 have e3 : (j : Int) + 2 - 1 = (j : Int) + 1 := by omega
 have hb0 : Below w.heap.size w (w.alloc (.cells #[.int .i64 N, .slice a l.length cap, .slice ba bs.length bc, .slice (some ⟨cb, co, none⟩) C.length cc, .int .i64 ((j : Int) + 2), .int .i64 q] 118)) := (Below.refl _ _).alloc (Nat.le_refl _) _
 have hg0 := heap_top w (.cells #[.int .i64 N, .slice a l.length cap, .slice ba bs.length bc, .slice (some ⟨cb, co, none⟩) C.length cc, .int .i64 ((j : Int) + 2), .int .i64 q] 118)
 have HB0 := hid hb0
 have HG0 := hid hg0
 have hz0 : (w.alloc (.cells #[.int .i64 N, .slice a l.length cap, .slice ba bs.length bc, .slice (some ⟨cb, co, none⟩) C.length cc, .int .i64 ((j : Int) + 2), .int .i64 q] 118)).heap.size = w.heap.size + 1 := World.size_alloc _ _
 obtain ⟨k0, k1, k2, k3, k4, k5⟩ := six_cells hg0
 have r0 := (hb0.cell (p := ⟨cb, co + j, none⟩) hcbl).trans HCA.out
 have r1 := (hb0.cell (p := ⟨cb, co + (j + 1), none⟩) hcbl).trans HCB.out
 clear hb0 hg0
 generalize hp : w.heap.size = p at *
 go_enter Tryz.func134, Tryz.ntmps134
 go_wp2_with fail
 generalize hW : w.alloc (.cells #[.int .i64 N, .slice a l.length cap, .slice ba bs.length bc, .slice (some ⟨cb, co, none⟩) C.length cc, .int .i64 ((j : Int) + 2), .int .i64 q] 118) = W at *
 clear hW r0 r1 k0 k1 k2 k3 k4 k5
 go_loopw [3, 27] (fun s i wr => ∃ (k : Nat) (G : List Int) (ga : Option Addr) (gc : Nat), k ≤ m ∧ i = .int .i64 k ∧ s = .slice ga G.length gc ∧ Hid (chR X Y q k = G) ∧ G.length ≤ k ∧ Hid (wr.ownsRow (p + 1) 3 1 (.slice ga G.length gc) G.length (cellsI G)) ∧ Hid (Below (p + 1) W wr)) (fun _ i _ => m - (intOf i).toNat)
 case atStart => exact ⟨0, [], none, 0, Nat.zero_le _, rfl, rfl, rfl, Nat.le_refl _, World.ownsRow_nil _ _ _ _, Below.refl _ _⟩
 case round =>
  obtain ⟨k, G, ga, gc, hk, rfl, rfl, HG, hGl, HO, HBR⟩ := hrel
  have hwz : p + 1 ≤ wr.heap.size := by have := HBR.out.size; omega
  have HGP := hid ((HBR.out.block p (by omega)).trans HG0.out)
  obtain ⟨k0, k1, k2, k3, k4, k5⟩ := six_cells HGP.out
  have HBW : Hid (Below p w wr) := HB0.out.trans (HBR.out.mono (by omega))
  by_cases hlk : k < m
  ·have hlk' : (k : Int) < m := by omega
   obtain ⟨rfl, hxl, hxat⟩ := HIX.out (by omega)
   obtain ⟨rfl, hyl, hyat⟩ := HIY.out (by omega)
   have y0 := (HBW.out.cell (p := ⟨iy, oy + k, none⟩) hyl).trans (hyat k hlk)
   have x0 := (HBW.out.cell (p := ⟨ix, ox + k, none⟩) hxl).trans (hxat k hlk)
   have HCT := hid (chR_t (xs := X) (ys := Y) (q := (q : Int)) (k := k))
   have HCF := hid (chR_f (xs := X) (ys := Y) (q := (q : Int)) (k := k))
   obtain ⟨yv, HYV⟩ := named (Y.getD k 0)
   obtain ⟨xv, HXV⟩ := named (X.getD k 0)
   rw [HYV.out] at y0 HCT HCF
   rw [HXV.out] at x0 HCT
   clear hxat hyat
   by_cases hc : yv = (q : Int)
   ·have hc' : (yv == (q : Int)) = true := by simpa using hc
    have HGN : Hid (chR X Y q (k + 1) = G ++ [xv]) := by show _ = _; rw [HCT.out hc, HG.out]
    have HNW : Hid (∀ (j : Nat) (z : Value), (cellsI [xv])[j]? = some z → (wr.alloc (.cells #[.int .i64 xv] 3)).cell? ((⟨wr.heap.size, 0, none⟩ : Addr).add j) = some z) := World.news_of_block (cs := #[.int .i64 xv]) (t := 3) (fr := (0, 0)) (heap_top wr _)
    have HO2 := hid (own_on HO.out ((Below.refl _ _).alloc (Nat.le_refl _) (.cells #[.int .i64 xv] 3)))
    have HB2 : Hid (Below (p + 1) W (wr.alloc (.cells #[.int .i64 xv] 3))) := HBR.out.alloc (by omega) _
    have HZ2 : Hid ((wr.alloc (.cells #[.int .i64 xv] 3)).heap.size = wr.heap.size + 1) := World.size_alloc _ _
    have HBZ : Hid (p + 1 ≤ (wr.alloc (.cells #[.int .i64 xv] 3)).heap.size) := by show _ ≤ _; rw [World.size_alloc]; omega
    have HC3 : Hid (cellsI G ++ cellsI [xv] = cellsI (G ++ [xv])) := by show _ = _; simp [cellsI]
    have HOB : Hid (∀ k, (Value.slice ga G.length gc).ownBlock = some k → p + 1 ≤ k) := fun k hk => (own_lt HO.out hk).1
    clear hc
    go_wp2_with (at_builtin; go_must (refine wpList_append_lies _ rfl (.tmp 36) (.tmp 41) 25 rfl (p + 1) 3 i3 _ 1 8 Tryz.underlying25 hi3 hz3 hs3 hby3 rfl (by decide) (.slice ga G.length gc) G.length (cellsI G) rfl HO2.out ⟨wr.heap.size, 0, none⟩ 1 1 (cellsI [xv]) rfl rfl HNW.out (by intro u hu; simp [cellsI] at hu; subst hu; rfl) (by decide) (by unfold maxLen; omega) (by omega) HBZ.out (wr.heap.size + 1) HZ2.out ?_; intro gg cap' w7 hown7 hgrow7 hat7 hlt7; rw [HC3.out] at hown7; have HW7 := hid hown7; have HB7 : Hid (Below (p + 1) W w7) := HB2.out.grown hgrow7 HBZ.out HOB.out; clear hown7 hgrow7 hat7 hlt7))
    have HO8 : Hid (w7.ownsRow (p + 1) 3 1 (.slice (some ⟨gg, 0, none⟩) (G ++ [xv]).length cap') (G ++ [xv]).length (cellsI (G ++ [xv]))) := by
     show w7.ownsRow _ _ _ _ _ _
     rw [List.length_append]
     exact HW7.out
    exact ⟨⟨k + 1, G ++ [xv], some ⟨gg, 0, none⟩, cap', hlk, by simp, by simp, HGN, by simp; omega, HO8, HB7⟩, by simp [intOf]; omega⟩
   ·have hc' : (yv == (q : Int)) = false := by simpa using hc
    have HGN : Hid (chR X Y q (k + 1) = G) := by show _ = _; rw [HCF.out hc, HG.out]
    go_wp2_with fail
    exact ⟨⟨k + 1, G, ga, gc, hlk, by simp, rfl, HGN, by omega, HO, HBR⟩, by simp [intOf]; omega⟩
  ·have hlk' : ¬ (k : Int) < m := by omega
   have ekm : k = m := by omega
   rw [ekm] at HG
   rw [HG.out] at HCMP HPOS
   obtain ⟨g, c2, e, hg1, hg2⟩ := World.ownsRow.form HO.out HPOS.out
   cases e
   have HSO := hid (sort_any (xs := []) (k := 0) (ys := G) (c := gc) HO.out rfl rfl (by omega))
   have HCO : Hid (∀ W2 : World, W2.ownsRow (p + 1) 3 1 (.slice (some ⟨g, 0, none⟩) G.length gc) G.length (cellsI ([] ++ srt G)) → Calls Tryz.prog 189 #[.slice (some ⟨g, 0, none⟩) G.length gc] W2 fun e w' => e = .returned (.slice (some ⟨g, 0, none⟩) (chL X Y q).length gc) ∧ w'.ownsRow (p + 1) 3 1 (.slice (some ⟨g, 0, none⟩) G.length gc) G.length (cellsI (ints (chL X Y q) ++ List.replicate (G.length - (chL X Y q).length) 0)) ∧ Fr (fun j => j = g) W2 w') := fun W2 h => by
    have h1 := compact_any (ys := srt G) h (srt_len G).symm (by rw [srt_len]; omega)
    rw [HCMP.out, ints_len, srt_len] at h1
    exact h1
   obtain ⟨K, HK⟩ := named (chL X Y q)
   rw [HK.out] at HCO hK8
   clear HG ekm HCMP HIX HIY HCA HCB HXY
   go_wp2_with fail
   refine HSO.out.mono ?_
   rintro e w2 ⟨rfl, ho2, hf2⟩
   have HB2 : Hid (Below (p + 1) W w2) := HBR.out.trans (hf2.below (by omega) (fun k hk => by omega))
   have HC2 := hid (HCO.out w2 ho2)
   clear ho2 HSO HCO HO HBR HBW k0 k1 k2 k3 k4 k5 HGP
   have hz2 : p + 1 ≤ w2.heap.size := by have := hf2.size; omega
   clear hf2
   go_wp2_with fail
   refine HC2.out.mono ?_
   rintro e w3 ⟨rfl, ho3, hf3⟩
   have HB3 : Hid (Below (p + 1) W w3) := HB2.out.trans (hf3.below (by omega) (fun k hk => by omega))
   have HO3 := hid ho3
   have hz3' : p + 1 ≤ w3.heap.size := by have := hf3.size; omega
   clear ho3 hf3 HC2 HB2
   have HRC : Hid (∀ W2 : World, W2.ownsRow (p + 1) 3 1 (.slice (some ⟨g, 0, none⟩) G.length gc) G.length (cellsI (ints K ++ List.replicate (G.length - K.length) 0)) → ∀ i, i < K.length → W2.cell? ⟨g, i, none⟩ = some (.int .i64 (K.getD i 0 : Nat))) := fun W2 h i hi => by
    have hl := h.1
    rw [cellsI_len, List.length_append, ints_len, List.length_replicate] at hl
    rw [World.ownsRow.cellAt h i (by omega), cellsI_getD _ i (by rw [List.length_append, ints_len]; omega), List.getD_eq_getElem?_getD, List.getElem?_append_left (by rw [ints_len]; exact hi), ← List.getD_eq_getElem?_getD, ints_getD hi]
   have HTK : Hid (∀ i, i < K.length → cellsPl (.int .i64 N) (.slice a l.length cap) (.slice ba bs.length bc) (.slice (some ⟨cb, co, none⟩) C.length cc) ((j : Int) + 1) (K.take (i + 1)) = cellsPl (.int .i64 N) (.slice a l.length cap) (.slice ba bs.length bc) (.slice (some ⟨cb, co, none⟩) C.length cc) ((j : Int) + 1) (K.take i) ++ [.int .i64 N, .slice a l.length cap, .slice ba bs.length bc, .slice (some ⟨cb, co, none⟩) C.length cc, .int .i64 ((j : Int) + 1), .int .i64 (K.getD i 0 : Nat)]) := fun i hi => by
    have et : K.take (i + 1) = K.take i ++ [K.getD i 0] := by
     rw [List.take_add_one, List.getElem?_eq_getElem hi, List.getD_eq_getElem?_getD, List.getElem?_eq_getElem hi]
     rfl
    rw [et, cellsPl_append]
    rfl
   have HGB : Hid (∀ wr : World, Below (p + 1) W wr → wr.heap[p]? = some (.cells #[.int .i64 N, .slice a l.length cap, .slice ba bs.length bc, .slice (some ⟨cb, co, none⟩) C.length cc, .int .i64 ((j : Int) + 2), .int .i64 q] 118)) := fun wr hb => (hb.block p (by omega)).trans HG0.out
   go_wp2_with fail
   go_loopw [7, 49] (fun s i wr => ∃ (k : Nat) (pa : Option Addr) (pc : Nat), k ≤ K.length ∧ i = .int .i64 k ∧ s = .slice pa k pc ∧ Hid (wr.ownsRow (p + 1) 118 6 (.slice pa k pc) k (cellsPl (.int .i64 N) (.slice a l.length cap) (.slice ba bs.length bc) (.slice (some ⟨cb, co, none⟩) C.length cc) ((j : Int) + 1) (K.take k))) ∧ Hid (wr.ownsRow (p + 1) 3 1 (.slice (some ⟨g, 0, none⟩) G.length gc) G.length (cellsI (ints K ++ List.replicate (G.length - K.length) 0))) ∧ Hid (Below (p + 1) W wr)) (fun _ i _ => K.length - (intOf i).toNat)
   case atStart => exact ⟨0, none, 0, Nat.zero_le _, rfl, rfl, World.ownsRow_nil _ _ _ _, HO3, HB3⟩
   case round =>
    clear HO3 HB3
    obtain ⟨k, pa, pc, hk, rfl, rfl, HO, HI, HBR⟩ := hrel
    have hwz : p + 1 ≤ wr.heap.size := by have := HBR.out.size; omega
    obtain ⟨k0, k1, k2, k3, k4, k5⟩ := six_cells (HGB.out wr HBR.out)
    by_cases hlk : k < K.length
    ·have hlk' : (k : Int) < K.length := by omega
     have y0 := HRC.out wr HI.out k hlk
     have HTN := hid (HTK.out k hlk)
     obtain ⟨kv, HKV⟩ := named (K.getD k 0)
     rw [HKV.out] at y0 HTN
     have HG2 := hid (heap_top wr (.cells #[.int .i64 N, .slice a l.length cap, .slice ba bs.length bc, .slice (some ⟨cb, co, none⟩) C.length cc, .int .i64 ((j : Int) + 1), .int .i64 (kv : Nat)] 118))
     have hb1 : Below wr.heap.size wr (wr.alloc (.cells #[.int .i64 N, .slice a l.length cap, .slice ba bs.length bc, .slice (some ⟨cb, co, none⟩) C.length cc, .int .i64 ((j : Int) + 1), .int .i64 (kv : Nat)] 118)) := (Below.refl _ _).alloc (Nat.le_refl _) _
     have HNW : Hid (∀ (i : Nat) (z : Value), [Value.int .i64 N, .slice a l.length cap, .slice ba bs.length bc, .slice (some ⟨cb, co, none⟩) C.length cc, .int .i64 ((j : Int) + 1), .int .i64 (kv : Nat)][i]? = some z → (wr.alloc (.cells #[.int .i64 N, .slice a l.length cap, .slice ba bs.length bc, .slice (some ⟨cb, co, none⟩) C.length cc, .int .i64 ((j : Int) + 1), .int .i64 (kv : Nat)] 118)).cell? ((⟨wr.heap.size, 0, none⟩ : Addr).add i) = some z) := World.news_of_block (cs := #[.int .i64 N, .slice a l.length cap, .slice ba bs.length bc, .slice (some ⟨cb, co, none⟩) C.length cc, .int .i64 ((j : Int) + 1), .int .i64 (kv : Nat)]) (t := 118) (fr := (0, 0)) HG2.out
     have HO2 := hid (own_on HO.out hb1)
     have HI2 := hid (own_on HI.out hb1)
     have HB2 : Hid (Below (p + 1) W (wr.alloc (.cells #[.int .i64 N, .slice a l.length cap, .slice ba bs.length bc, .slice (some ⟨cb, co, none⟩) C.length cc, .int .i64 ((j : Int) + 1), .int .i64 (kv : Nat)] 118))) := HBR.out.alloc (by omega) _
     have HZ2 : Hid ((wr.alloc (.cells #[.int .i64 N, .slice a l.length cap, .slice ba bs.length bc, .slice (some ⟨cb, co, none⟩) C.length cc, .int .i64 ((j : Int) + 1), .int .i64 (kv : Nat)] 118)).heap.size = wr.heap.size + 1) := World.size_alloc _ _
     have HBZ : Hid (p + 1 ≤ (wr.alloc (.cells #[.int .i64 N, .slice a l.length cap, .slice ba bs.length bc, .slice (some ⟨cb, co, none⟩) C.length cc, .int .i64 ((j : Int) + 1), .int .i64 (kv : Nat)] 118)).heap.size) := by show _ ≤ _; rw [World.size_alloc]; omega
     have HOB : Hid (∀ k', (Value.slice pa k pc).ownBlock = some k' → p + 1 ≤ k') := fun k' hk' => (own_lt HO.out hk').1
     have HIK : Hid (∀ w7, (wr.alloc (.cells #[.int .i64 N, .slice a l.length cap, .slice ba bs.length bc, .slice (some ⟨cb, co, none⟩) C.length cc, .int .i64 ((j : Int) + 1), .int .i64 (kv : Nat)] 118)).grownBy w7 (Value.slice pa k pc).ownBlock → w7.ownsRow (p + 1) 3 1 (.slice (some ⟨g, 0, none⟩) G.length gc) G.length (cellsI (ints K ++ List.replicate (G.length - K.length) 0))) := fun w7 hgr => own_keep HI2.out (fun k' hk' => hgr.block k' (own_lt HI2.out hk').2 (fun e => by
      obtain ⟨cs, fz, h1⟩ := Lib.ownsRow_kind HI2.out k' hk'
      obtain ⟨cs2, fz2, h2⟩ := Lib.ownsRow_kind HO2.out k' e.symm
      rw [h1] at h2
      injection h2 with h2
      injection h2 with _ h2 _
      exact absurd h2 (by decide)))
     clear hb1
     go_wp2_with (at_builtin; go_must (refine wpList_append_lies _ rfl (.tmp 53) (.tmp 63) 188 rfl (p + 1) 118 iP _ 6 96 Tryz.underlying188 hiP hzP hsP hbyP rfl (by decide) (.slice pa k pc) k (cellsPl (.int .i64 N) (.slice a l.length cap) (.slice ba bs.length bc) (.slice (some ⟨cb, co, none⟩) C.length cc) ((j : Int) + 1) (K.take k)) rfl HO2.out ⟨wr.heap.size, 0, none⟩ 1 1 [.int .i64 N, .slice a l.length cap, .slice ba bs.length bc, .slice (some ⟨cb, co, none⟩) C.length cc, .int .i64 ((j : Int) + 1), .int .i64 (kv : Nat)] rfl rfl HNW.out (by intro u hu; simp at hu; rcases hu with rfl | rfl | rfl | rfl | rfl | rfl <;> rfl) (by decide) (by unfold maxLen; omega) (by omega) HBZ.out (wr.heap.size + 1) HZ2.out ?_; intro gg cap' w7 hown7 hgrow7 hat7 hlt7; rw [← HTN.out] at hown7; have HW7 := hid hown7; have HB7 : Hid (Below (p + 1) W w7) := HB2.out.grown hgrow7 HBZ.out HOB.out; have HI7 := hid (HIK.out w7 hgrow7); clear hown7 hgrow7 hat7 hlt7))
     exact ⟨⟨k + 1, some ⟨gg, 0, none⟩, cap', hlk, by simp, by simp, HW7, HI7, HB7⟩, by simp [intOf]; omega⟩
    ·have hlk' : ¬ (k : Int) < K.length := by omega
     obtain rfl : k = K.length := by omega
     have HB9 : Hid (Below p w wr) := HB0.out.trans (HBR.out.mono (by omega))
     have HO9 : Hid (wr.ownsRow p 118 6 (.slice pa K.length pc) K.length (cellsPl (.int .i64 N) (.slice a l.length cap) (.slice ba bs.length bc) (.slice (some ⟨cb, co, none⟩) C.length cc) ((j : Int) + 1) K)) := by
      have h := HO.out
      rw [List.take_length] at h
      exact own_base h (by omega)
     clear HO HI HBR
     go_wp2_with fail
     go_ret
     rw [HK.out]
     exact ⟨pa, pc, rfl, HO9.out, HB9.out⟩
end Go.Proofs.YtaafkpojjdjphaaGreat
