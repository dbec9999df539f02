import Derived.Deep.CutBlock
import Derived.Test.YtaafkpojjdjphaaGreatQAR
open Go.Lib (hid)
namespace Go.Proofs.YtaafkpojjdjphaaGreat
open Go.RowKit
theorem info30 : (Tryz.prog.info? 30).map (fun i => (i.zero, i.size, i.bytes)) = some (some (.slice none 0 0), 1, 24) := by kernel_rfl
theorem Mk.prev0 {n : Nat} {l : List A} {bs : List Int} {cs : List (List Int)} {ep : Int} {xs : List Int} {O Rp Rq : List Mt} {M : List Mt} {k : Nat} (h : Mk n l bs cs ep xs O Rp 0 M k) : Mk n l bs cs ep xs O Rq 0 M k := ⟨h.len, h.mf, h.nw, h.kp⟩
theorem OS.base {w : World} {B B' g m : Nat} {rv : Nat → Value} {R : Nat → List Mt} (h : OS w B g m rv R) (hb : B' ≤ B) : OS w B' g m rv R :=
 ⟨⟨h.tr.ne, h.tr.tb, Nat.le_trans hb h.tr.gb, fun v hv => own_base (h.tr.ro v hv) hb, h.tr.ap⟩, fun j hj => (h.me j hj).base hb, h.bn⟩
theorem set_last {w : World} {b : Nat} {t : TypeId} {a0 a1 a2 a3 : Value} (h : w.heap[b]? = some (.cells #[a0, a1, a2, a3] t)) (u : Value) : (w.setCell ⟨b, 3, none⟩ u).heap[b]? = some (.cells #[a0, a1, a2, u] t) := by
 rw [heap_setCell_same w b 3 _ _ u h]
 rfl
set_option maxRecDepth 100000 in
set_option maxHeartbeats 12800000 in
theorem matrices_any (n : Nat) (a : Option Addr) (l : List A) (cap : Nat) (ba : Option Addr) (bs : List Int) (bc : Nat) (ca : Option Addr) (C : List Cl) (cc : Nat) (ep : Int) (oa : Option Addr) (O : List Lw) (oc : Nat) (fa : Option Addr) (F : List Cl) (fc m : Nat) (w : World) (hNR : NR n l bs (csl C)) (he : epB ep = true) (hl : l.length ≤ 9223372036854775807) (hbl : bs.length ≤ 9223372036854775807) (hr : Arcs w a l) (hi : Ints w ba bs) (hR : Rws w ca C) (hwt : ∀ x ∈ l, 0 ≤ x.w ∧ x.w < 4294967296) (hm : C.length = m) (hFl : F.length = m) (hF : Rws w fa F) (hFx : ∀ j, j < m → (cl F j).xs.length = (szL (lvl (csl C) j)).length ∧ ∀ i, i < (szL (lvl (csl C) j)).length → (cl F j).xs.getD i 0 = 0 ∨ (cl F j).xs.getD i 0 = mdF j) (hOv : Ovs w oa O) (hO : ∀ j, j < m → ∀ i, i < (szL (lvl (csl C) j)).length → (cl F j).xs.getD i 0 = 0 → j < O.length ∧ i < (lw O j).M.length ∧ MF n l bs (csl C) ep j i (mt (lw O j).M i)) :
  Calls Tryz.prog 96 #[.agg #[.int .i64 n, .slice a l.length cap, .slice ba bs.length bc, .slice ca m cc, .int .i64 ep], .slice oa O.length oc, .slice fa m fc] w fun e w' => ∃ g rv R, e = .returned (.tuple #[.slice (some ⟨g, 0, none⟩) m m, .int .i64 0]) ∧ OS w' w.heap.size g m rv R ∧ (∀ j, j < m → Mk n l bs (csl C) ep (cl F j).xs (lw O j).M (R (j - 1)) j (R j) (szL (lvl (csl C) j)).length) ∧ Below w.heap.size w w' := by
 have hmb : m = bs.length := by have := hNR.2.2.2.1; rw [csl_len] at this; omega
 have h5 : m ≤ 5 := by have := hNR.2.2.1; omega
 have hm0 : 0 < m := by have := hNR.2.1; omega
 have h1024 : n ≤ 1024 := by have := (chk_zero hNR.1).2.1; omega
 have hep0 : 0 ≤ ep := (show 0 ≤ ep ∧ ep ≤ 1073741824 by simpa [epB] using he).1
 have HLVL : Hid (∀ k, k < m → (lvl (csl C) k).length = n ∧ tdy (lvl (csl C) k) 0 = true) := fun k hk => by
  obtain ⟨b1, b2, _⟩ := hNR.lv (k := k) (by omega)
  exact ⟨by omega, b2⟩
 have HCNT : Hid (∀ k, k < m → 0 < (szL (lvl (csl C) k)).length ∧ (szL (lvl (csl C) k)).length ≤ 1024) := fun k hk => by
  obtain ⟨b1, b2⟩ := HLVL.out k hk
  have h1 := szL_length (lvl (csl C) k)
  have h0N := (chk_zero hNR.1).1
  obtain ⟨y, _, hy⟩ := right_lt b2 (u := 0) (by omega)
  omega
 have HLF : Hid (∀ W2, Below w.heap.size w W2 → ∀ q, q < (szL (lvl (csl C) 0)).length → Calls Tryz.prog 162 #[.agg #[.int .i64 n, .slice a l.length cap, .slice ba bs.length bc, .slice ca m cc, .int .i64 ep], .int .i64 (q : Nat)] W2 fun e w' => ∃ v c, e = .returned (.tuple #[.agg #[.int .i64 1, .int .i64 (q : Nat), .int .i64 ep, .slice v (rD n l bs (csl C) 0 q).length c], .int .i64 0]) ∧ w'.ownsRow W2.heap.size 48 1 (.slice v (rD n l bs (csl C) 0 q).length c) (rD n l bs (csl C) 0 q).length (cellsU (rD n l bs (csl C) 0 q)) ∧ Below W2.heap.size W2 w') := fun W2 hb q hq => by
  have h := ovLeaf_any n a l cap ba bs bc ca C cc ep q W2 hq hNR he hl hbl (hr.on hb) (hi.on hb) (hR.on hb) hwt
  rw [hm] at h
  exact h
 have HUPP : Hid (∀ W2, Below w.heap.size w W2 → ∀ (k jj q : Nat), k = jj + 1 → k < m → q < (szL (lvl (csl C) k)).length → ∀ (M2 : List Mt) (ma : Option Addr) (kl mc : Nat), (chL (lvl (csl C) jj) (lvl (csl C) k) (q : Nat)).length = kl → Mts W2 ma (kidM M2 (chL (lvl (csl C) jj) (lvl (csl C) k) (q : Nat))) → Fit n l bs (csl C) jj ep M2 → Calls Tryz.prog 163 #[.agg #[.int .i64 n, .slice a l.length cap, .slice ba bs.length bc, .slice ca m cc, .int .i64 ep], .int .i64 ((k : Int) + 1), .int .i64 (q : Nat), .slice ma kl mc] W2 fun e w' => ∃ v c, e = .returned (.tuple #[.agg #[.int .i64 ((k : Int) + 1), .int .i64 (q : Nat), .int .i64 ep, .slice v (upD n l bs (csl C) jj q M2).length c], .int .i64 0]) ∧ w'.ownsRow W2.heap.size 48 1 (.slice v (upD n l bs (csl C) jj q M2).length c) (upD n l bs (csl C) jj q M2).length (cellsU (upD n l bs (csl C) jj q M2)) ∧ Below W2.heap.size W2 w') := fun W2 hb k jj q hk hkm hq M2 ma kl mc hkl hM hFt => by
  subst hk
  have h := ovUp_any n a l cap ba bs bc ca C cc ep jj q M2 ma kl mc W2 (by omega) hq hkl hM hFt hNR he hl hbl (hr.on hb) (hi.on hb) (hR.on hb) hwt
  rw [hm] at h
  exact h
 have HFA : Hid (∀ W2, Below w.heap.size w W2 → ∀ (k jj : Nat), k = jj + 1 → k < m → Calls Tryz.prog 160 #[(cl C k).val, (cl C jj).val] W2 fun e w' => ∃ g rv, e = .returned (.slice (some ⟨g, 0, none⟩) (szL (lvl (csl C) k)).length (szL (lvl (csl C) k)).length) ∧ TR 25 3 1 w' W2.heap.size g (szL (lvl (csl C) k)).length rv (fun q => (chL (lvl (csl C) jj) (lvl (csl C) k) (q : Nat)).length) (fun q => cellsI (ints (chL (lvl (csl C) jj) (lvl (csl C) k) (q : Nat)))) ∧ Below W2.heap.size W2 w') := fun W2 hb k jj hk hkm => by
  obtain ⟨b1, b2⟩ := HLVL.out k hkm
  obtain ⟨b3, b4⟩ := HLVL.out jj (by omega)
  have h0N := (chk_zero hNR.1).1
  rw [csl_at] at b1 b2 b3 b4
  rw [csl_at, csl_at]
  exact families_any (cl C k).a (cl C k).xs (cl C k).c (cl C jj).a (cl C jj).xs (cl C jj).c W2 b2 b4 (by omega) (by omega) (by omega) ((hR.2 k (by omega)).1.on hb) ((hR.2 jj (by omega)).1.on hb)
 obtain ⟨i30, hi30, hz30, hs30, hby30⟩ := info_parts info30
 obtain ⟨iM, hiM, hzM, hsM, hbyM⟩ := info_parts infoM
 have hmk : ∀ w, (Instr.makeSlice 63 (.int .i64 m) (.int .i64 m)).run Tryz.prog w = .ok (.slice (some ⟨w.heap.size, 0, none⟩) m m) (w.alloc (.cells ((List.range m).map (fun _ => Value.slice none 0 0)).toArray 30)) := fun w => by
  have := run_make (P := Tryz.prog) w 63 30 i30 (.slice none 0 0) Tryz.underlying63 hi30 hz30 .i64 .i64 m m (by omega) (by omega) (by rw [hby30]; omega) (by omega)
  rw [hs30] at this
  rw [this, Int.toNat_natCast, made_sl]
 obtain ⟨hg0, hg1, hb0, hsz⟩ := top2 w (.cells #[.int .i64 n, .slice a l.length cap, .slice ba bs.length bc, .slice ca m cc, .int .i64 ep] 150) (.cells ((List.range m).map (fun _ => Value.slice none 0 0)).toArray 30)
 have HOS0 : Hid (OS ((w.alloc (.cells #[.int .i64 n, .slice a l.length cap, .slice ba bs.length bc, .slice ca m cc, .int .i64 ep] 150)).alloc (.cells ((List.range m).map (fun _ => Value.slice none 0 0)).toArray 30)) (w.heap.size + 1) (w.heap.size + 1) m (fun _ => .slice none 0 0) (fun _ => [])) := by
  have h := TR.new (ty := 30) (e := 40) (sz := 4) (by decide) (w.alloc (.cells #[.int .i64 n, .slice a l.length cap, .slice ba bs.length bc, .slice ca m cc, .int .i64 ep] 150)) m
  rw [World.size_alloc] at h
  exact ⟨h, fun j _ i hi => absurd hi (by simp), fun j _ i hi => absurd hi (by simp)⟩
 obtain ⟨fx, fo, hfx⟩ := hF.get
 obtain ⟨rfl, hfbl, hfat⟩ := hfx (by omega)
 obtain ⟨bx, bo, hbx⟩ := hOv.get
 obtain ⟨nx, no, hnx⟩ := hR.get
 obtain ⟨rfl, hnbl, hnat⟩ := hnx (by omega)
 have HFAT := hid hfat
 have HNAT := hid hnat
 have HOG := hid hbx
 have HOV := hid hOv
 have HO := hid hO
 have HWT := hid hwt
 have HFX := hid hFx
 have HFR : Hid (∀ j, j < m → Ints w (cl F j).a (cl F j).xs) := fun j hj => (hF.2 j (by omega)).1
 have HB0 := hid hb0
 have HG0 := hid hg0
 have HFL := hid hFl
 have HCM := hid hm
 have HMB := hid hmb
 clear hr hi hR hF hOv hO hFx hfx hbx hfat hnat hnx hb0 hg0 hg1 hwt hNR he hmb hm hFl
 generalize hp : w.heap.size = p at *
 go_enter Tryz.func96, Tryz.ntmps96
 go_wp2_with fail
 generalize (w.alloc (.cells #[.int .i64 n, .slice a l.length cap, .slice ba bs.length bc, .slice (some ⟨nx, no, none⟩) m cc, .int .i64 ep] 150)).alloc (.cells ((List.range m).map (fun _ => Value.slice none 0 0)).toArray 30) = V at *
 clear hmk
 go_loopw [21] (fun q wr => ∃ (k : Nat) (rv : Nat → Value) (R : Nat → List Mt), k ≤ m ∧ q = .int .i64 k ∧ Hid (OS wr (p + 1) (p + 1) m rv R) ∧ Hid (∀ j, k ≤ j → R j = []) ∧ Hid (∀ j, j < k → Mk n l bs (csl C) ep (cl F j).xs (lw O j).M (R (j - 1)) j (R j) (szL (lvl (csl C) j)).length) ∧ Hid (wr.heap[p]? = some (.cells #[.int .i64 n, .slice a l.length cap, .slice ba bs.length bc, .slice (some ⟨nx, no, none⟩) m cc, .int .i64 ep] 150)) ∧ Hid (Below p w wr)) (fun q _ => m - (intOf q).toNat)
 case atStart => exact ⟨0, fun _ => .slice none 0 0, fun _ => [], Nat.zero_le _, rfl, HOS0, fun j _ => rfl, fun j hj => absurd hj (by omega), HG0, HB0⟩
 case round =>
  clear HOS0 HG0 HB0
  obtain ⟨k, rv, R, hk, rfl, HO5, HRE, HMK0, HP5, HB5⟩ := hrel
  have hwz5 : p + 1 < wr.heap.size := HO5.out.tr.tb.lt
  by_cases hkm : k < m
  ·have hkm' : (k : Int) < m := by omega
   have hcn2 := HCNT.out k hkm
   have hfx2 := HFX.out k hkm
   have f0 := (HB5.out.cell (p := ⟨fx, fo + k, none⟩) (by show fx < _; omega)).trans (HFAT.out k (by rw [HFL.out]; exact hkm))
   have hfr := HFR.out k hkm
   obtain ⟨va, HVA⟩ := named (cl F k).a
   obtain ⟨vc, HVC⟩ := named (cl F k).c
   have hval : (cl F k).val = .slice (cl F k).a (cl F k).xs.length (cl F k).c := rfl
   rw [hval, HVA.out, HVC.out] at f0
   rw [HVA.out] at hfr
   obtain ⟨xs, HXS⟩ := named (cl F k).xs
   rw [HXS.out] at f0 hfr hfx2
   obtain ⟨cn, HCN⟩ := named (szL (lvl (csl C) k)).length
   rw [HCN.out] at hfx2 hcn2
   rw [hfx2.1] at f0
   obtain ⟨ix, ox, hix⟩ := hfr.get
   obtain ⟨rfl, hibl, hxat⟩ := hix (by omega)
   have HXA := hid hxat
   have HXL := hid hfx2.1
   have HFV := hid hfx2.2
   have HOK := hid (HO.out k hkm)
   rw [HXS.out, HCN.out] at HOK
   clear hix hxat hfr hfx2 hval
   by_cases hk0 : k = 0
   ·have hk0' : ¬ (0 : Int) < k := by omega
    have hk0'' : ¬ 0 < k := by omega
    have hx1e : mdF k = 1 := if_pos hk0
    rw [hx1e] at HFV
    have HK0 := hid hk0
    clear hk0 hx1e
    go_wp2_with fail
    go_loopw [50] (fun q wr => ∃ (i : Nat) (rv2 : Nat → Value) (R2 : Nat → List Mt), i ≤ cn ∧ q = .int .i64 i ∧ Hid (OS wr (p + 1) (p + 1) m rv2 R2) ∧ Hid (∀ j, j ≠ k → R2 j = R j ∧ rv2 j = rv j) ∧ Hid (Mk n l bs (csl C) ep xs (lw O k).M (R (k - 1)) k (R2 k) i) ∧ Hid (wr.heap[p]? = some (.cells #[.int .i64 n, .slice a l.length cap, .slice ba bs.length bc, .slice (some ⟨nx, no, none⟩) m cc, .int .i64 ep] 150)) ∧ Hid (Below p w wr)) (fun q _ => cn - (intOf q).toNat)
    case atStart => exact ⟨0, rv, R, Nat.zero_le _, rfl, HO5, fun j _ => ⟨rfl, rfl⟩, by show Mk _ _ _ _ _ _ _ _ _ _ _; rw [HRE.out k (Nat.le_refl k)]; exact Mk.nil _ _ _ _ _ _ _ _ _, HP5, HB5⟩
    case round =>
     clear HO5 HP5 HB5
     obtain ⟨i, rv2, R2, hi, rfl, HOR, HEQ, HMK, HPR, HBR⟩ := hrel
     have hwz : p + 1 < wr.heap.size := HOR.out.tr.tb.lt
     by_cases hli : i < cn
     ·have hli' : (i : Int) < cn := by omega
      have y0 := (HBR.out.cell (p := ⟨ix, ox + i, none⟩) (by show ix < _; omega)).trans (HXA.out i (by rw [HXL.out]; exact hli))
      have HMK2 := hid HMK.out
      rcases HFV.out i hli with hx0 | hx1
      ·rw [hx0] at y0
       have hkO := HOK.out i hli hx0
       obtain ⟨hkl, hil, hmf0⟩ := hkO
       have HMF0 := hid hmf0
       obtain ⟨rfl, hobl, hoat⟩ := HOG.out (by omega)
       have y1 := (HBR.out.cell (p := ⟨bx, bo + k, none⟩) (by show bx < _; omega)).trans (hoat k hkl)
       have hMt := (HOV.out.2 k hkl).1
       obtain ⟨ex, eo, hex⟩ := hMt.get
       obtain ⟨hea, hebl, heat⟩ := hex (by omega)
       obtain ⟨c0, c1, c2, c3⟩ := heat i hil
       have HDT := hid (hMt.2 i hil)
       rw [hea] at y1
       have u0 := (HBR.out.cell (p := ⟨ex, eo + i * 4, none⟩) (by show ex < _; omega)).trans c0
       have u1 := (HBR.out.cell (p := ⟨ex, eo + i * 4 + 1, none⟩) (by show ex < _; omega)).trans c1
       have u2 := (HBR.out.cell (p := ⟨ex, eo + i * 4 + 2, none⟩) (by show ex < _; omega)).trans c2
       have u3 := (HBR.out.cell (p := ⟨ex, eo + i * 4 + 3, none⟩) (by show ex < _; omega)).trans c3
       obtain ⟨X, HX⟩ := named (mt (lw O k).M i).D
       obtain ⟨xe, HXE⟩ := named (mt (lw O k).M i).ep
       have hXl : X.length ≤ 1048576 := by
        rw [← HX.out, HMF0.out.2.2.2]
        exact sq_le (bdV_le _ _ _ _ _ _) h1024
       rw [hmf0.1] at u0
       rw [hmf0.2.1] at u1
       rw [HXE.out] at u2
       rw [HX.out] at u3
       have hkl' : (k : Int) < O.length := by omega
       have hil' : (i : Int) < (lw O k).M.length := by omega
       obtain ⟨ol, HOL⟩ := named (lw O k).M.length
       rw [HOL.out] at y1 hil'
       obtain ⟨ya, HYA⟩ := named (mt (lw O k).M i).a
       obtain ⟨yc, HYC⟩ := named (mt (lw O k).M i).c
       rw [HYA.out, HYC.out] at u3
       clear hoat hMt hex heat c0 c1 c2 c3 hea hmf0
       have hbA : Below wr.heap.size wr (wr.alloc (.cells #[.int .i64 0, .int .i64 0, .int .i64 0, .slice none 0 0] 40)) := (Below.refl _ _).alloc (Nat.le_refl _) _
       have v1 := (hbA.cell (p := ⟨bx, bo + k, none⟩) (by show bx < _; omega)).trans y1
       have v2 := (hbA.cell (p := ⟨ex, eo + i * 4, none⟩) (by show ex < _; omega)).trans u0
       have v3 := (hbA.cell (p := ⟨ex, eo + i * 4 + 1, none⟩) (by show ex < _; omega)).trans u1
       have v4 := (hbA.cell (p := ⟨ex, eo + i * 4 + 2, none⟩) (by show ex < _; omega)).trans u2
       have v5 := (hbA.cell (p := ⟨ex, eo + i * 4 + 3, none⟩) (by show ex < _; omega)).trans u3
       have HS4 := hid (heap_top wr (.cells #[.int .i64 ((k : Int) + 1), .int .i64 (i : Nat), .int .i64 xe, .slice ya X.length yc] 40))
       have hB4 : Below wr.heap.size wr (wr.alloc (.cells #[.int .i64 ((k : Int) + 1), .int .i64 (i : Nat), .int .i64 xe, .slice ya X.length yc] 40)) := (Below.refl _ _).alloc (Nat.le_refl _) _
       generalize hWB : wr.alloc (.cells #[.int .i64 ((k : Int) + 1), .int .i64 (i : Nat), .int .i64 xe, .slice ya X.length yc] 40) = WB at *
       have hzB := hB4.size
       obtain ⟨⟨t0, t1, t2, t3⟩, e0, e1, e2, e3⟩ := four_cells HS4.out
       have hzB2 : wr.heap.size < WB.heap.size := lt_of_block HS4.out
       have HCL := hid (cloneD_any ya X yc WB (by omega) (by
        have h := HDT.out.1
        rw [HYA.out, HX.out] at h
        exact h.on (hp ▸ (HBR.out.trans (hB4.mono (by omega))))))
       have HB4 := hid hB4
       clear hbA hB4 y1 u0 u1 u2 u3
       go_wp2_with fail
       try rw [hWB]
       clear hWB v1 v2 v3 v4 v5 t0 t1 t2 t3 e0 e1 e2 e3
       refine HCL.out.mono ?_
       rintro e w5 ⟨v, c, rfl, hown5, hb5⟩
       have hz5 := hb5.size
       obtain ⟨⟨t0, t1, t2, t3⟩, e0, e1, e2, e3⟩ := four_cells ((hb5.block wr.heap.size hzB2).trans HS4.out)
       generalize hs : wr.heap.size = s at *
       have HBW : Hid (Below s wr w5) := HB4.out.trans (hb5.mono (by omega))
       have HSB : Hid ((w5.setCell ⟨s, 3, none⟩ (.slice v X.length c)).heap[s]? = some (.cells #[.int .i64 ((k : Int) + 1), .int .i64 (i : Nat), .int .i64 xe, .slice v X.length c] 40)) := set_last ((hb5.block s hzB2).trans HS4.out) _
       have hbS : Below s wr (w5.setCell ⟨s, 3, none⟩ (.slice v X.length c)) := HBW.out.setCell (p := ⟨s, 3, none⟩) (Nat.le_refl s) _
       have HOS : Hid (OS (w5.setCell ⟨s, 3, none⟩ (.slice v X.length c)) (p + 1) (p + 1) m rv2 R2) := HOR.out.on (by rw [hs]; exact hbS)
       have HOW : Hid ((w5.setCell ⟨s, 3, none⟩ (.slice v X.length c)).ownsRow (p + 1) 48 1 (.slice v X.length c) X.length (cellsU X)) := own_base (own_set hown5 ⟨s, 3, none⟩ (.slice v X.length c) (by show s < _; omega)) (by omega)
       have HBX : Hid (Below p w (w5.setCell ⟨s, 3, none⟩ (.slice v X.length c))) := HBR.out.trans (hbS.mono (by omega))
       have HPX := hid ((hbS.block p (by omega)).trans HPR.out)
       have HVB : Hid (X.length ≤ 9223372036854775807 ∧ ∀ i, i < X.length → 0 ≤ X.getD i 0 ∧ X.getD i 0 ≤ N5.Inf) := by
        have h := HDT.out.2
        rw [HX.out] at h
        exact h
       have hz6 : s < (w5.setCell ⟨s, 3, none⟩ (.slice v X.length c)).heap.size := lt_of_block HSB.out
       clear hown5 hb5 hbS HCL HB4 HBW HS4
       go_wp2_with fail
       try clear t0 t1 t2 t3 e0 e1 e2 e3
       generalize hW6 : w5.setCell ⟨s, 3, none⟩ (.slice v X.length c) = w6 at *
       clear hW6
       have hmf := HMK.out.snoc (x := ⟨(k : Int) + 1, (i : Nat), xe, v, c, X⟩) ⟨rfl, rfl, by have h := HMF0.out.2.2.1; rw [HXE.out] at h; exact h, by have h := HMF0.out.2.2.2; rw [HX.out] at h; exact h⟩ (fun h => absurd hx0 h) (fun _ => ⟨HXE.out.symm, HX.out.symm⟩)
       have HMF := hid hmf
       have d0 := HOS.out.tr.tb.cell hkm
       have hgl := HOS.out.tr.tb.lt
       have HKG := hid (HOS.out.tr.kg hkm)
       obtain ⟨rq, HRV⟩ := named (rv2 k)
       rw [HRV.out] at d0 HKG
       obtain ⟨⟨s0, s1, s2, s3⟩, _⟩ := four_cells HSB.out
       have hb1 : Below w6.heap.size w6 ((w6.drew).alloc (.cells #[.int .i64 ((k : Int) + 1), .int .i64 (i : Nat), .int .i64 xe, .slice v X.length c] 40)) := (show Below w6.heap.size w6 w6.drew from ⟨rfl, rfl, rfl, Nat.le_refl _, fun _ _ => rfl⟩).alloc (Nat.le_refl _) _
       have HB1 := hid hb1
       have HO1 := hid (own_on (HOS.out.tr.ro k hkm) hb1)
       have HNW : Hid (∀ (j : Nat) (z : Value), [Value.int .i64 ((k : Int) + 1), .int .i64 (i : Nat), .int .i64 xe, .slice v X.length c][j]? = some z → ((w6.drew).alloc (.cells #[.int .i64 ((k : Int) + 1), .int .i64 (i : Nat), .int .i64 xe, .slice v X.length c] 40)).cell? ((⟨w6.heap.size, 0, none⟩ : Addr).add j) = some z) := World.news_of_block (cs := #[.int .i64 ((k : Int) + 1), .int .i64 (i : Nat), .int .i64 xe, .slice v X.length c]) (t := 40) (fr := (0, 0)) (heap_top w6.drew _)
       have HSZ : Hid (((w6.drew).alloc (.cells #[.int .i64 ((k : Int) + 1), .int .i64 (i : Nat), .int .i64 xe, .slice v X.length c] 40)).heap.size = w6.heap.size + 1) := World.size_alloc _ _
       have hpw : p + 1 ≤ w6.heap.size := by omega
       have HBZ : Hid (p + 1 ≤ ((w6.drew).alloc (.cells #[.int .i64 ((k : Int) + 1), .int .i64 (i : Nat), .int .i64 xe, .slice v X.length c] 40)).heap.size) := by show _ ≤ _; rw [HSZ.out]; omega
       have HD0 : Hid (((w6.drew).alloc (.cells #[.int .i64 ((k : Int) + 1), .int .i64 (i : Nat), .int .i64 xe, .slice v X.length c] 40)).cell? ⟨p + 1, k, none⟩ = some rq) := (hb1.cell (p := ⟨p + 1, k, none⟩) hgl).trans d0
       have HTA : Hid (TbV ((w6.drew).alloc (.cells #[.int .i64 ((k : Int) + 1), .int .i64 (i : Nat), .int .i64 xe, .slice v X.length c] 40)) (p + 1) m 30 rv2) := HOS.out.tr.tb.same (hb1.block (p + 1) hgl)
       rw [HRV.out] at HO1
       have hRl : (R2 k).length = i := HMK.out.len
       have hln : i ≤ 1024 := by omega
       obtain ⟨CS, HCS⟩ := named (cellsM (R2 k))
       rw [HCS.out, hRl] at HO1
       have HGL : Hid (p + 1 < ((w6.drew).alloc (.cells #[.int .i64 ((k : Int) + 1), .int .i64 (i : Nat), .int .i64 xe, .slice v X.length c] 40)).heap.size) := Nat.lt_of_lt_of_le hgl hb1.size
       have z2 : (w6.alloc (.cells #[.int .i64 ((k : Int) + 1), .int .i64 (i : Nat), .int .i64 xe, .slice v X.length c] 40)).cell? ⟨p + 1, k, none⟩ = some rq := (((Below.refl w6.heap.size w6).alloc (Nat.le_refl _) (.cells #[.int .i64 ((k : Int) + 1), .int .i64 (i : Nat), .int .i64 xe, .slice v X.length c] 40)).cell (p := ⟨p + 1, k, none⟩) hgl).trans d0
       have HWZ := hid hpw
       clear hb1 hmf hpw HSB
       go_wp2_with fail
       go_region_law (refine step_append_lies _ rfl (.tmp 101) (.tmp 103) 30 rfl (p + 1) 40 iM _ 4 48 Tryz.underlying30 hiM hzM hsM hbyM rfl (by decide) rq i CS (by simp [Act.eval]) HO1.out ⟨w6.heap.size, 0, none⟩ 1 1 [.int .i64 ((k : Int) + 1), .int .i64 (i : Nat), .int .i64 xe, .slice v X.length c] (by simp [Act.eval]) rfl HNW.out (by intro u hu; simp at hu; rcases hu with rfl | rfl | rfl | rfl <;> rfl) (by decide) (by unfold maxLen; omega) (by omega) HBZ.out (w6.heap.size + 1) HSZ.out ?_; intro gg cap' w7 hown7 hgrow7 hat7 hlt7; have f0 := (hgrow7.cell_far ⟨p + 1, k, none⟩ HGL.out (fun e => HKG.out e.symm)).trans HD0.out; have f1 := TbV.free (TbV.same HTA.out (hgrow7.block (p + 1) HGL.out (fun e => HKG.out e.symm))) k; have HG7 := hid hgrow7; have HW7 := hid hown7; have HA7 := hid hat7; clear hown7 hgrow7 hat7 hlt7)
       all_goals
        rw [← HRV.out] at HG7 HA7
        rw [← HCS.out] at HW7
        have HL : Hid ((R2 k).length = i) := hRl
        have hput := HOS.out.put (x := ⟨((k : Int) + 1), (i : Nat), xe, v, c, X⟩) (gg := gg) (cap := cap') hkm HB1.out HG7.out (by rw [HL.out]; exact HW7.out) (HA7.out.imp id (fun h => by omega)) HOW.out HVB.out
        rw [HL.out] at hput
        have HBB := hid (HOS.out.tr.below hput.2 HWZ.out)
        have HFB : Hid (Below p w _) := HBX.out.trans (HBB.out.mono (by omega))
        have HFP := hid ((HBB.out.block p (by omega)).trans HPX.out)
        have HFO := hid hput.1
        clear hput HBB
        go_wp2_with fail
        refine ⟨⟨i + 1, updV rv2 k (.slice (some ⟨gg, 0, none⟩) (i + 1) cap'), fun j => if j = k then R2 k ++ [⟨((k : Int) + 1), (i : Nat), xe, v, c, X⟩] else R2 j, by omega, by simp, HFO, ?_, ?_, HFP, HFB⟩, by simp [intOf]; omega⟩
        ·intro j hj
         show (if j = k then _ else _) = _ ∧ updV rv2 k _ j = _
         rw [if_neg hj, updV_ne _ _ hj]
         exact HEQ.out j hj
        ·show Mk _ _ _ _ _ _ _ _ _ (if k = k then _ else _) _
         rw [if_pos rfl]
         exact HMF.out
      ·rw [hx1] at y0
       have hgA := heap_top wr (.cells #[.int .i64 0, .int .i64 0, .int .i64 0, .slice none 0 0] 40)
       have hbA : Below wr.heap.size wr (wr.alloc (.cells #[.int .i64 0, .int .i64 0, .int .i64 0, .slice none 0 0] 40)) := (Below.refl _ _).alloc (Nat.le_refl _) _
       have hzA : (wr.alloc (.cells #[.int .i64 0, .int .i64 0, .int .i64 0, .slice none 0 0] 40)).heap.size = wr.heap.size + 1 := World.size_alloc _ _
       have hPA := (hbA.block p (by omega)).trans HPR.out
       obtain ⟨q0, q1, q2, q3, q4⟩ := five_cells hPA
       have HLC := hid (HLF.out _ (HBR.out.trans (hbA.mono (by omega))) i (by have e := HCN.out; rw [HK0.out] at e; rw [e]; exact hli))
       obtain ⟨X, HX⟩ := named (rD n l bs (csl C) 0 i)
       rw [HX.out] at HLC
       have HVB : Hid (X.length ≤ 9223372036854775807 ∧ ∀ i, i < X.length → 0 ≤ X.getD i 0 ∧ X.getD i 0 ≤ N5.Inf) := by
        show _ ∧ _
        rw [← HX.out]
        refine ⟨?_, rD_val HWT.out⟩
        rw [rD_len]
        exact Nat.le_trans (sq_le (bdV_le _ _ _ _ _ _) h1024) (by decide)
       have HGA := hid hgA
       have HBA := hid hbA
       have HPA := hid hPA
       clear hgA hbA hPA
       go_wp2_with fail
       generalize wr.alloc (.cells #[.int .i64 0, .int .i64 0, .int .i64 0, .slice none 0 0] 40) = WA at *
       refine HLC.out.mono ?_
       rintro e w5 ⟨v, c, rfl, hown5, hb5⟩
       have hz5 := hb5.size
       generalize hs : wr.heap.size = s at *
       clear q0 q1 q2 q3 q4
       have hK5 := (hb5.block s (by omega)).trans HGA.out
       obtain ⟨⟨t0, t1, t2, t3⟩, e0, e1, e2, e3⟩ := four_cells hK5
       have HSB := hid (set4 hK5 (.int .i64 1) (.int .i64 (i : Nat)) (.int .i64 ep) (.slice v X.length c))
       have hbS := below_set4 (HBA.out.trans (hb5.mono (by omega))) (Nat.le_refl s) (.int .i64 1) (.int .i64 (i : Nat)) (.int .i64 ep) (.slice v X.length c)
       have HOS := hid (HOR.out.on (w' := (((w5.setCell ⟨s, 0, none⟩ (.int .i64 1)).setCell ⟨s, 1, none⟩ (.int .i64 (i : Nat))).setCell ⟨s, 2, none⟩ (.int .i64 ep)).setCell ⟨s, 3, none⟩ (.slice v X.length c)) (by rw [hs]; exact hbS))
       have HOW := hid (own_base (own_set4 hown5 (show s < WA.heap.size by omega) (.int .i64 1) (.int .i64 (i : Nat)) (.int .i64 ep) (.slice v X.length c)) (show p + 1 ≤ WA.heap.size by omega))
       have HBX : Hid (Below p w ((((w5.setCell ⟨s, 0, none⟩ (.int .i64 1)).setCell ⟨s, 1, none⟩ (.int .i64 (i : Nat))).setCell ⟨s, 2, none⟩ (.int .i64 ep)).setCell ⟨s, 3, none⟩ (.slice v X.length c))) := HBR.out.trans (hbS.mono (show p ≤ s by omega))
       have HPX := hid ((hbS.block p (by omega)).trans HPR.out)
       have hz6 := lt_of_block HSB.out
       clear hown5 hb5 hbS HLC hK5 HGA HBA HPA
       go_wp2_with fail
       try clear t0 t1 t2 t3 e0 e1 e2 e3
       generalize hW6 : (((w5.setCell ⟨s, 0, none⟩ (.int .i64 1)).setCell ⟨s, 1, none⟩ (.int .i64 (i : Nat))).setCell ⟨s, 2, none⟩ (.int .i64 ep)).setCell ⟨s, 3, none⟩ (.slice v X.length c) = w6 at *
       clear hW6
       have hmf := HMK.out.snoc (x := ⟨1, (i : Nat), ep, v, c, X⟩) (by refine ⟨by have := HK0.out; subst this; rfl, rfl, ⟨hep0, Int.le_refl _⟩, ?_⟩; show X.length = _; rw [← HX.out, rD_len]; have := HK0.out; subst this; rfl) (fun _ => ⟨rfl, by show X = _; unfold nwD; rw [if_pos HK0.out, HX.out]⟩) (fun h => absurd h (by rw [hx1]; decide))
       have HMF := hid hmf
       have d0 := HOS.out.tr.tb.cell hkm
       have hgl := HOS.out.tr.tb.lt
       have HKG := hid (HOS.out.tr.kg hkm)
       obtain ⟨rq, HRV⟩ := named (rv2 k)
       rw [HRV.out] at d0 HKG
       obtain ⟨⟨s0, s1, s2, s3⟩, _⟩ := four_cells HSB.out
       have hb1 : Below w6.heap.size w6 ((w6.drew).alloc (.cells #[.int .i64 1, .int .i64 (i : Nat), .int .i64 ep, .slice v X.length c] 40)) := (show Below w6.heap.size w6 w6.drew from ⟨rfl, rfl, rfl, Nat.le_refl _, fun _ _ => rfl⟩).alloc (Nat.le_refl _) _
       have HB1 := hid hb1
       have HO1 := hid (own_on (HOS.out.tr.ro k hkm) hb1)
       have HNW : Hid (∀ (j : Nat) (z : Value), [Value.int .i64 1, .int .i64 (i : Nat), .int .i64 ep, .slice v X.length c][j]? = some z → ((w6.drew).alloc (.cells #[.int .i64 1, .int .i64 (i : Nat), .int .i64 ep, .slice v X.length c] 40)).cell? ((⟨w6.heap.size, 0, none⟩ : Addr).add j) = some z) := World.news_of_block (cs := #[.int .i64 1, .int .i64 (i : Nat), .int .i64 ep, .slice v X.length c]) (t := 40) (fr := (0, 0)) (heap_top w6.drew _)
       have HSZ : Hid (((w6.drew).alloc (.cells #[.int .i64 1, .int .i64 (i : Nat), .int .i64 ep, .slice v X.length c] 40)).heap.size = w6.heap.size + 1) := World.size_alloc _ _
       have hpw : p + 1 ≤ w6.heap.size := by omega
       have HBZ : Hid (p + 1 ≤ ((w6.drew).alloc (.cells #[.int .i64 1, .int .i64 (i : Nat), .int .i64 ep, .slice v X.length c] 40)).heap.size) := by show _ ≤ _; rw [HSZ.out]; omega
       have HD0 : Hid (((w6.drew).alloc (.cells #[.int .i64 1, .int .i64 (i : Nat), .int .i64 ep, .slice v X.length c] 40)).cell? ⟨p + 1, k, none⟩ = some rq) := (hb1.cell (p := ⟨p + 1, k, none⟩) hgl).trans d0
       have HTA : Hid (TbV ((w6.drew).alloc (.cells #[.int .i64 1, .int .i64 (i : Nat), .int .i64 ep, .slice v X.length c] 40)) (p + 1) m 30 rv2) := HOS.out.tr.tb.same (hb1.block (p + 1) hgl)
       rw [HRV.out] at HO1
       have hRl : (R2 k).length = i := HMK.out.len
       have hln : i ≤ 1024 := by omega
       obtain ⟨CS, HCS⟩ := named (cellsM (R2 k))
       rw [HCS.out, hRl] at HO1
       have HGL : Hid (p + 1 < ((w6.drew).alloc (.cells #[.int .i64 1, .int .i64 (i : Nat), .int .i64 ep, .slice v X.length c] 40)).heap.size) := Nat.lt_of_lt_of_le hgl hb1.size
       have z2 : (w6.alloc (.cells #[.int .i64 1, .int .i64 (i : Nat), .int .i64 ep, .slice v X.length c] 40)).cell? ⟨p + 1, k, none⟩ = some rq := (((Below.refl w6.heap.size w6).alloc (Nat.le_refl _) (.cells #[.int .i64 1, .int .i64 (i : Nat), .int .i64 ep, .slice v X.length c] 40)).cell (p := ⟨p + 1, k, none⟩) hgl).trans d0
       have HWZ := hid hpw
       clear hb1 hmf hpw HSB
       go_wp2_with fail
       go_region_law (refine step_append_lies _ rfl (.tmp 101) (.tmp 103) 30 rfl (p + 1) 40 iM _ 4 48 Tryz.underlying30 hiM hzM hsM hbyM rfl (by decide) rq i CS (by simp [Act.eval]) HO1.out ⟨w6.heap.size, 0, none⟩ 1 1 [.int .i64 1, .int .i64 (i : Nat), .int .i64 ep, .slice v X.length c] (by simp [Act.eval]) rfl HNW.out (by intro u hu; simp at hu; rcases hu with rfl | rfl | rfl | rfl <;> rfl) (by decide) (by unfold maxLen; omega) (by omega) HBZ.out (w6.heap.size + 1) HSZ.out ?_; intro gg cap' w7 hown7 hgrow7 hat7 hlt7; have f0 := (hgrow7.cell_far ⟨p + 1, k, none⟩ HGL.out (fun e => HKG.out e.symm)).trans HD0.out; have f1 := TbV.free (TbV.same HTA.out (hgrow7.block (p + 1) HGL.out (fun e => HKG.out e.symm))) k; have HG7 := hid hgrow7; have HW7 := hid hown7; have HA7 := hid hat7; clear hown7 hgrow7 hat7 hlt7)
       all_goals
        rw [← HRV.out] at HG7 HA7
        rw [← HCS.out] at HW7
        have HL : Hid ((R2 k).length = i) := hRl
        have hput := HOS.out.put (x := ⟨1, (i : Nat), ep, v, c, X⟩) (gg := gg) (cap := cap') hkm HB1.out HG7.out (by rw [HL.out]; exact HW7.out) (HA7.out.imp id (fun h => by omega)) HOW.out HVB.out
        rw [HL.out] at hput
        have HBB := hid (HOS.out.tr.below hput.2 HWZ.out)
        have HFB : Hid (Below p w _) := HBX.out.trans (HBB.out.mono (by omega))
        have HFP := hid ((HBB.out.block p (by omega)).trans HPX.out)
        have HFO := hid hput.1
        clear hput HBB
        go_wp2_with fail
        refine ⟨⟨i + 1, updV rv2 k (.slice (some ⟨gg, 0, none⟩) (i + 1) cap'), fun j => if j = k then R2 k ++ [⟨1, (i : Nat), ep, v, c, X⟩] else R2 j, by omega, by simp, HFO, ?_, ?_, HFP, HFB⟩, by simp [intOf]; omega⟩
        ·intro j hj
         show (if j = k then _ else _) = _ ∧ updV rv2 k _ j = _
         rw [if_neg hj, updV_ne _ _ hj]
         exact HEQ.out j hj
        ·show Mk _ _ _ _ _ _ _ _ _ (if k = k then _ else _) _
         rw [if_pos rfl]
         exact HMF.out
     ·have hli' : ¬ (i : Int) < cn := by omega
      obtain rfl : i = cn := by omega
      go_wp2_with fail
      refine ⟨⟨k + 1, rv2, R2, by omega, by simp, HOR, fun j hj => ?_, fun j hj => ?_, HPR, HBR⟩, by simp [intOf]; omega⟩
      ·rw [(HEQ.out j (by omega)).1]
       exact HRE.out j (by omega)
      ·by_cases e : j = k
       ·subst e
        have h := HMK.out
        rw [← HCN.out] at h
        rw [HXS.out]
        by_cases e0 : j = 0
        ·rw [e0] at h ⊢
         have e1 : (0 : Nat) - 1 = 0 := rfl
         exact Mk.prev0 h
        ·rw [(HEQ.out (j - 1) (by omega)).1]
         exact h
       ·rw [(HEQ.out j e).1]
        by_cases e0 : j = 0
        ·have h := HMK0.out j (by omega)
         rw [e0] at h ⊢
         exact Mk.prev0 h
        ·rw [(HEQ.out (j - 1) (by omega)).1]
         exact HMK0.out j (by omega)
   ·have hk0' : (0 : Int) < k := by omega
    have hk0'' : 0 < k := by omega
    have hx1e : mdF k = 2 := if_neg hk0
    rw [hx1e] at HFV
    obtain ⟨jj, hjj⟩ : ∃ jj, k = jj + 1 := ⟨k - 1, by omega⟩
    have HJJ := hid hjj
    have hjm : jj < m := by omega
    have hjm' : (jj : Int) < m := by omega
    have hwj : IntKind.i64.wrap ((k : Int) - 1) = (jj : Int) := by rw [IntKind.wrap_i64]; omega
    have hwk : IntKind.i64.wrap ((k : Int) + 1) = (k : Int) + 1 := by rw [IntKind.wrap_i64]; omega
    have HKJ : Hid (k - 1 = jj) := by show _ = _; omega
    obtain ⟨q0, q1, q2, q3, q4⟩ := five_cells HP5.out
    have c0 := (HB5.out.cell (p := ⟨nx, no + k, none⟩) (by show nx < _; omega)).trans (HNAT.out k (by rw [HCM.out]; exact hkm))
    have c1 := (HB5.out.cell (p := ⟨nx, no + jj, none⟩) (by show nx < _; omega)).trans (HNAT.out jj (by rw [HCM.out]; exact hjm))
    have c2 := HO5.out.tr.tb.cell hjm
    obtain ⟨ba2, bc2, hbel, hbmt⟩ := HO5.out.mts hjm
    rw [hbel] at c2
    have HBEL := hid hbel
    have HCHL : Hid (∀ q, q < cn → ∀ t, t < (chL (lvl (csl C) jj) (lvl (csl C) k) (q : Nat)).length → (chL (lvl (csl C) jj) (lvl (csl C) k) (q : Nat)).getD t 0 < (R jj).length) := fun q _ t ht => by
     have h := ch_lt (HLVL.out jj hjm).2 ht
     have h2 := (HMK0.out jj (by omega)).len
     omega
    have HFIT : Hid (Fit n l bs (csl C) jj ep (R jj)) := (HMK0.out jj (by omega)).fit
    have HBND := hid (HO5.out.bn jj hjm)
    have HRLE : Hid ((R jj).length ≤ 1024) := by
     have h2 := (HMK0.out jj (by omega)).len
     have h3 := (HCNT.out jj hjm).2
     show _ ≤ _
     omega
    obtain ⟨bl2, HBL2⟩ := named (R jj).length
    rw [HBL2.out] at c2 HBEL
    have HFAc := hid (HFA.out wr.drew (HB5.out.trans ⟨rfl, rfl, rfl, Nat.le_refl _, fun _ _ => rfl⟩) k jj hjj hkm)
    rw [HCN.out] at HFAc
    obtain ⟨ck, HCK⟩ := named (cl C k).val
    obtain ⟨cj, HCJ⟩ := named (cl C jj).val
    rw [HCK.out] at c0 HFAc
    rw [HCJ.out] at c1 HFAc
    have HQ3 := hid q3
    have HC0 := hid c0
    have HC1 := hid c1
    have HC2 := hid c2
    have HF0 := hid f0
    clear hk0 hx1e hjj hbel hbmt q0 q1 q2 q4
    go_wp2_with fail
    go_region_held3 (fun w' => w'.cell? ⟨p, 3, none⟩ = some (.slice (some ⟨nx, no, none⟩) m cc) ∧ w'.cell? ⟨nx, no + k, none⟩ = some ck ∧ w'.cell? ⟨nx, no + jj, none⟩ = some cj ∧ w'.cell? ⟨p + 1, jj, none⟩ = some (.slice ba2 bl2 bc2)) (go_keep) ((go_at_call 160; refine HFAc.out.mono ?_; rintro e w2 ⟨g2, rc, rfl, htr, hb2⟩; have v0 := (hb2.cell (p := ⟨p, 3, none⟩) (by show p < wr.heap.size; omega)).trans HQ3.out; have v1 := (hb2.cell (p := ⟨nx, no + k, none⟩) (by have := HB5.out.size; show nx < wr.heap.size; omega)).trans HC0.out; have v2 := (hb2.cell (p := ⟨nx, no + jj, none⟩) (by have := HB5.out.size; show nx < wr.heap.size; omega)).trans HC1.out; have v3 := (hb2.cell (p := ⟨p + 1, jj, none⟩) (by show p + 1 < wr.heap.size; omega)).trans HC2.out; have HTC5 : Hid (TR 25 3 1 w2 wr.heap.size g2 cn rc (fun q => (chL (lvl (csl C) jj) (lvl (csl C) k) (q : Nat)).length) (fun q => cellsI (ints (chL (lvl (csl C) jj) (lvl (csl C) k) (q : Nat))))) := htr; have HBW : Hid (Below wr.heap.size wr w2) := (show Below wr.heap.size wr wr.drew from ⟨rfl, rfl, rfl, Nat.le_refl _, fun _ _ => rfl⟩).trans hb2; clear htr hb2))
    have HO5 : Hid (OS w2 (p + 1) (p + 1) m rv R) := HO5.out.on HBW.out
    have HP5 := hid ((HBW.out.block p (by omega)).trans HP5.out)
    have HB5 : Hid (Below p w w2) := HB5.out.trans (HBW.out.mono (by omega))
    have f0 := (HBW.out.cell (p := ⟨fx, fo + k, none⟩) (by have := HB5.out.size; show fx < _; omega)).trans HF0.out
    generalize wr.heap.size = B2 at *
    clear HBW HFAc c0 c1 c2 q3 v0 v1 v2 v3
    go_wp2_with fail
    go_loopw [50] (fun q wr => ∃ (i : Nat) (rv2 : Nat → Value) (R2 : Nat → List Mt), i ≤ cn ∧ q = .int .i64 i ∧ Hid (OS wr (p + 1) (p + 1) m rv2 R2) ∧ Hid (∀ j, j ≠ k → R2 j = R j ∧ rv2 j = rv j) ∧ Hid (Mk n l bs (csl C) ep xs (lw O k).M (R (k - 1)) k (R2 k) i) ∧ Hid (wr.heap[p]? = some (.cells #[.int .i64 n, .slice a l.length cap, .slice ba bs.length bc, .slice (some ⟨nx, no, none⟩) m cc, .int .i64 ep] 150)) ∧ Hid (Below p w wr) ∧ Hid (TR 25 3 1 wr B2 g2 cn rc (fun q => (chL (lvl (csl C) jj) (lvl (csl C) k) (q : Nat)).length) (fun q => cellsI (ints (chL (lvl (csl C) jj) (lvl (csl C) k) (q : Nat)))))) (fun q _ => cn - (intOf q).toNat)
    case atStart => exact ⟨0, rv, R, Nat.zero_le _, rfl, HO5, fun j _ => ⟨rfl, rfl⟩, by show Mk _ _ _ _ _ _ _ _ _ _ _; rw [HRE.out k (Nat.le_refl k)]; exact Mk.nil _ _ _ _ _ _ _ _ _, HP5, HB5, HTC5⟩
    case round =>
     clear HO5 HP5 HB5 HTC5
     obtain ⟨i, rv2, R2, hi, rfl, HOR, HEQ, HMK, HPR, HBR, HTR2⟩ := hrel
     have hwz : p + 1 < wr.heap.size := HOR.out.tr.tb.lt
     by_cases hli : i < cn
     ·have hli' : (i : Int) < cn := by omega
      have y0 := (HBR.out.cell (p := ⟨ix, ox + i, none⟩) (by show ix < _; omega)).trans (HXA.out i (by rw [HXL.out]; exact hli))
      have HMK2 := hid HMK.out
      rcases HFV.out i hli with hx0 | hx1
      ·rw [hx0] at y0
       have hkO := HOK.out i hli hx0
       obtain ⟨hkl, hil, hmf0⟩ := hkO
       have HMF0 := hid hmf0
       obtain ⟨rfl, hobl, hoat⟩ := HOG.out (by omega)
       have y1 := (HBR.out.cell (p := ⟨bx, bo + k, none⟩) (by show bx < _; omega)).trans (hoat k hkl)
       have hMt := (HOV.out.2 k hkl).1
       obtain ⟨ex, eo, hex⟩ := hMt.get
       obtain ⟨hea, hebl, heat⟩ := hex (by omega)
       obtain ⟨c0, c1, c2, c3⟩ := heat i hil
       have HDT := hid (hMt.2 i hil)
       rw [hea] at y1
       have u0 := (HBR.out.cell (p := ⟨ex, eo + i * 4, none⟩) (by show ex < _; omega)).trans c0
       have u1 := (HBR.out.cell (p := ⟨ex, eo + i * 4 + 1, none⟩) (by show ex < _; omega)).trans c1
       have u2 := (HBR.out.cell (p := ⟨ex, eo + i * 4 + 2, none⟩) (by show ex < _; omega)).trans c2
       have u3 := (HBR.out.cell (p := ⟨ex, eo + i * 4 + 3, none⟩) (by show ex < _; omega)).trans c3
       obtain ⟨X, HX⟩ := named (mt (lw O k).M i).D
       obtain ⟨xe, HXE⟩ := named (mt (lw O k).M i).ep
       have hXl : X.length ≤ 1048576 := by
        rw [← HX.out, HMF0.out.2.2.2]
        exact sq_le (bdV_le _ _ _ _ _ _) h1024
       rw [hmf0.1] at u0
       rw [hmf0.2.1] at u1
       rw [HXE.out] at u2
       rw [HX.out] at u3
       have hkl' : (k : Int) < O.length := by omega
       have hil' : (i : Int) < (lw O k).M.length := by omega
       obtain ⟨ol, HOL⟩ := named (lw O k).M.length
       rw [HOL.out] at y1 hil'
       obtain ⟨ya, HYA⟩ := named (mt (lw O k).M i).a
       obtain ⟨yc, HYC⟩ := named (mt (lw O k).M i).c
       rw [HYA.out, HYC.out] at u3
       clear hoat hMt hex heat c0 c1 c2 c3 hea hmf0
       have hbA : Below wr.heap.size wr (wr.alloc (.cells #[.int .i64 0, .int .i64 0, .int .i64 0, .slice none 0 0] 40)) := (Below.refl _ _).alloc (Nat.le_refl _) _
       have v1 := (hbA.cell (p := ⟨bx, bo + k, none⟩) (by show bx < _; omega)).trans y1
       have v2 := (hbA.cell (p := ⟨ex, eo + i * 4, none⟩) (by show ex < _; omega)).trans u0
       have v3 := (hbA.cell (p := ⟨ex, eo + i * 4 + 1, none⟩) (by show ex < _; omega)).trans u1
       have v4 := (hbA.cell (p := ⟨ex, eo + i * 4 + 2, none⟩) (by show ex < _; omega)).trans u2
       have v5 := (hbA.cell (p := ⟨ex, eo + i * 4 + 3, none⟩) (by show ex < _; omega)).trans u3
       have HS4 := hid (heap_top wr (.cells #[.int .i64 ((k : Int) + 1), .int .i64 (i : Nat), .int .i64 xe, .slice ya X.length yc] 40))
       have hB4 : Below wr.heap.size wr (wr.alloc (.cells #[.int .i64 ((k : Int) + 1), .int .i64 (i : Nat), .int .i64 xe, .slice ya X.length yc] 40)) := (Below.refl _ _).alloc (Nat.le_refl _) _
       generalize hWB : wr.alloc (.cells #[.int .i64 ((k : Int) + 1), .int .i64 (i : Nat), .int .i64 xe, .slice ya X.length yc] 40) = WB at *
       have hzB := hB4.size
       obtain ⟨⟨t0, t1, t2, t3⟩, e0, e1, e2, e3⟩ := four_cells HS4.out
       have hzB2 : wr.heap.size < WB.heap.size := lt_of_block HS4.out
       have HCL := hid (cloneD_any ya X yc WB (by omega) (by
        have h := HDT.out.1
        rw [HYA.out, HX.out] at h
        exact h.on (hp ▸ (HBR.out.trans (hB4.mono (by omega))))))
       have HB4 := hid hB4
       clear hbA hB4 y1 u0 u1 u2 u3
       go_wp2_with fail
       try rw [hWB]
       clear hWB v1 v2 v3 v4 v5 t0 t1 t2 t3 e0 e1 e2 e3
       refine HCL.out.mono ?_
       rintro e w5 ⟨v, c, rfl, hown5, hb5⟩
       have hz5 := hb5.size
       obtain ⟨⟨t0, t1, t2, t3⟩, e0, e1, e2, e3⟩ := four_cells ((hb5.block wr.heap.size hzB2).trans HS4.out)
       generalize hs : wr.heap.size = s at *
       have HBW : Hid (Below s wr w5) := HB4.out.trans (hb5.mono (by omega))
       have HSB : Hid ((w5.setCell ⟨s, 3, none⟩ (.slice v X.length c)).heap[s]? = some (.cells #[.int .i64 ((k : Int) + 1), .int .i64 (i : Nat), .int .i64 xe, .slice v X.length c] 40)) := set_last ((hb5.block s hzB2).trans HS4.out) _
       have hbS : Below s wr (w5.setCell ⟨s, 3, none⟩ (.slice v X.length c)) := HBW.out.setCell (p := ⟨s, 3, none⟩) (Nat.le_refl s) _
       have HOS : Hid (OS (w5.setCell ⟨s, 3, none⟩ (.slice v X.length c)) (p + 1) (p + 1) m rv2 R2) := HOR.out.on (by rw [hs]; exact hbS)
       have HOW : Hid ((w5.setCell ⟨s, 3, none⟩ (.slice v X.length c)).ownsRow (p + 1) 48 1 (.slice v X.length c) X.length (cellsU X)) := own_base (own_set hown5 ⟨s, 3, none⟩ (.slice v X.length c) (by show s < _; omega)) (by omega)
       have HBX : Hid (Below p w (w5.setCell ⟨s, 3, none⟩ (.slice v X.length c))) := HBR.out.trans (hbS.mono (by omega))
       have HPX := hid ((hbS.block p (by omega)).trans HPR.out)
       have HVB : Hid (X.length ≤ 9223372036854775807 ∧ ∀ i, i < X.length → 0 ≤ X.getD i 0 ∧ X.getD i 0 ≤ N5.Inf) := by
        have h := HDT.out.2
        rw [HX.out] at h
        exact h
       have HTC := hid (HTR2.out.on (w' := w5.setCell ⟨s, 3, none⟩ (.slice v X.length c)) (by rw [hs]; exact hbS))
       have hz6 : s < (w5.setCell ⟨s, 3, none⟩ (.slice v X.length c)).heap.size := lt_of_block HSB.out
       clear hown5 hb5 hbS HCL HB4 HBW HS4
       go_wp2_with fail
       try clear t0 t1 t2 t3 e0 e1 e2 e3
       generalize hW6 : w5.setCell ⟨s, 3, none⟩ (.slice v X.length c) = w6 at *
       clear hW6
       have hmf := HMK.out.snoc (x := ⟨(k : Int) + 1, (i : Nat), xe, v, c, X⟩) ⟨rfl, rfl, by have h := HMF0.out.2.2.1; rw [HXE.out] at h; exact h, by have h := HMF0.out.2.2.2; rw [HX.out] at h; exact h⟩ (fun h => absurd hx0 h) (fun _ => ⟨HXE.out.symm, HX.out.symm⟩)
       have HMF := hid hmf
       have d0 := HOS.out.tr.tb.cell hkm
       have hgl := HOS.out.tr.tb.lt
       have HKG := hid (HOS.out.tr.kg hkm)
       obtain ⟨rq, HRV⟩ := named (rv2 k)
       rw [HRV.out] at d0 HKG
       obtain ⟨⟨s0, s1, s2, s3⟩, _⟩ := four_cells HSB.out
       have hb1 : Below w6.heap.size w6 ((w6.drew).alloc (.cells #[.int .i64 ((k : Int) + 1), .int .i64 (i : Nat), .int .i64 xe, .slice v X.length c] 40)) := (show Below w6.heap.size w6 w6.drew from ⟨rfl, rfl, rfl, Nat.le_refl _, fun _ _ => rfl⟩).alloc (Nat.le_refl _) _
       have HB1 := hid hb1
       have HO1 := hid (own_on (HOS.out.tr.ro k hkm) hb1)
       have HNW : Hid (∀ (j : Nat) (z : Value), [Value.int .i64 ((k : Int) + 1), .int .i64 (i : Nat), .int .i64 xe, .slice v X.length c][j]? = some z → ((w6.drew).alloc (.cells #[.int .i64 ((k : Int) + 1), .int .i64 (i : Nat), .int .i64 xe, .slice v X.length c] 40)).cell? ((⟨w6.heap.size, 0, none⟩ : Addr).add j) = some z) := World.news_of_block (cs := #[.int .i64 ((k : Int) + 1), .int .i64 (i : Nat), .int .i64 xe, .slice v X.length c]) (t := 40) (fr := (0, 0)) (heap_top w6.drew _)
       have HSZ : Hid (((w6.drew).alloc (.cells #[.int .i64 ((k : Int) + 1), .int .i64 (i : Nat), .int .i64 xe, .slice v X.length c] 40)).heap.size = w6.heap.size + 1) := World.size_alloc _ _
       have hpw : p + 1 ≤ w6.heap.size := by omega
       have HBZ : Hid (p + 1 ≤ ((w6.drew).alloc (.cells #[.int .i64 ((k : Int) + 1), .int .i64 (i : Nat), .int .i64 xe, .slice v X.length c] 40)).heap.size) := by show _ ≤ _; rw [HSZ.out]; omega
       have HD0 : Hid (((w6.drew).alloc (.cells #[.int .i64 ((k : Int) + 1), .int .i64 (i : Nat), .int .i64 xe, .slice v X.length c] 40)).cell? ⟨p + 1, k, none⟩ = some rq) := (hb1.cell (p := ⟨p + 1, k, none⟩) hgl).trans d0
       have HTA : Hid (TbV ((w6.drew).alloc (.cells #[.int .i64 ((k : Int) + 1), .int .i64 (i : Nat), .int .i64 xe, .slice v X.length c] 40)) (p + 1) m 30 rv2) := HOS.out.tr.tb.same (hb1.block (p + 1) hgl)
       rw [HRV.out] at HO1
       have hRl : (R2 k).length = i := HMK.out.len
       have hln : i ≤ 1024 := by omega
       obtain ⟨CS, HCS⟩ := named (cellsM (R2 k))
       rw [HCS.out, hRl] at HO1
       have HGL : Hid (p + 1 < ((w6.drew).alloc (.cells #[.int .i64 ((k : Int) + 1), .int .i64 (i : Nat), .int .i64 xe, .slice v X.length c] 40)).heap.size) := Nat.lt_of_lt_of_le hgl hb1.size
       have z2 : (w6.alloc (.cells #[.int .i64 ((k : Int) + 1), .int .i64 (i : Nat), .int .i64 xe, .slice v X.length c] 40)).cell? ⟨p + 1, k, none⟩ = some rq := (((Below.refl w6.heap.size w6).alloc (Nat.le_refl _) (.cells #[.int .i64 ((k : Int) + 1), .int .i64 (i : Nat), .int .i64 xe, .slice v X.length c] 40)).cell (p := ⟨p + 1, k, none⟩) hgl).trans d0
       have HWZ := hid hpw
       clear hb1 hmf hpw HSB
       go_wp2_with fail
       go_region_law (refine step_append_lies _ rfl (.tmp 101) (.tmp 103) 30 rfl (p + 1) 40 iM _ 4 48 Tryz.underlying30 hiM hzM hsM hbyM rfl (by decide) rq i CS (by simp [Act.eval]) HO1.out ⟨w6.heap.size, 0, none⟩ 1 1 [.int .i64 ((k : Int) + 1), .int .i64 (i : Nat), .int .i64 xe, .slice v X.length c] (by simp [Act.eval]) rfl HNW.out (by intro u hu; simp at hu; rcases hu with rfl | rfl | rfl | rfl <;> rfl) (by decide) (by unfold maxLen; omega) (by omega) HBZ.out (w6.heap.size + 1) HSZ.out ?_; intro gg cap' w7 hown7 hgrow7 hat7 hlt7; have f0 := (hgrow7.cell_far ⟨p + 1, k, none⟩ HGL.out (fun e => HKG.out e.symm)).trans HD0.out; have f1 := TbV.free (TbV.same HTA.out (hgrow7.block (p + 1) HGL.out (fun e => HKG.out e.symm))) k; have HG7 := hid hgrow7; have HW7 := hid hown7; have HA7 := hid hat7; clear hown7 hgrow7 hat7 hlt7)
       all_goals
        rw [← HRV.out] at HG7 HA7
        rw [← HCS.out] at HW7
        have HL : Hid ((R2 k).length = i) := hRl
        have hput := HOS.out.put (x := ⟨((k : Int) + 1), (i : Nat), xe, v, c, X⟩) (gg := gg) (cap := cap') hkm HB1.out HG7.out (by rw [HL.out]; exact HW7.out) (HA7.out.imp id (fun h => by omega)) HOW.out HVB.out
        rw [HL.out] at hput
        have HBB := hid (HOS.out.tr.below hput.2 HWZ.out)
        have HFB : Hid (Below p w _) := HBX.out.trans (HBB.out.mono (by omega))
        have HFP := hid ((HBB.out.block p (by omega)).trans HPX.out)
        have HFO := hid hput.1
        have HFC := hid (HOS.out.tr.keepK hput.2 HTC.out (by decide) (by decide) (by decide) (by decide))
        clear hput HBB
        go_wp2_with fail
        refine ⟨⟨i + 1, updV rv2 k (.slice (some ⟨gg, 0, none⟩) (i + 1) cap'), fun j => if j = k then R2 k ++ [⟨((k : Int) + 1), (i : Nat), xe, v, c, X⟩] else R2 j, by omega, by simp, HFO, ?_, ?_, HFP, HFB, HFC⟩, by simp [intOf]; omega⟩
        ·intro j hj
         show (if j = k then _ else _) = _ ∧ updV rv2 k _ j = _
         rw [if_neg hj, updV_ne _ _ hj]
         exact HEQ.out j hj
        ·show Mk _ _ _ _ _ _ _ _ _ (if k = k then _ else _) _
         rw [if_pos rfl]
         exact HMF.out
      ·rw [hx1] at y0
       have hgA := heap_top wr (.cells #[.int .i64 0, .int .i64 0, .int .i64 0, .slice none 0 0] 40)
       have hbA : Below wr.heap.size wr (wr.alloc (.cells #[.int .i64 0, .int .i64 0, .int .i64 0, .slice none 0 0] 40)) := (Below.refl _ _).alloc (Nat.le_refl _) _
       have hzA : (wr.alloc (.cells #[.int .i64 0, .int .i64 0, .int .i64 0, .slice none 0 0] 40)).heap.size = wr.heap.size + 1 := World.size_alloc _ _
       have hPA := (hbA.block p (by omega)).trans HPR.out
       obtain ⟨q0, q1, q2, q3, q4⟩ := five_cells hPA
       have hTA := HTR2.out
       have n0 := hTA.tb.cell hli
       obtain ⟨ka, kc, hke⟩ := own_slice (hTA.ro i hli)
       have hkr := hTA.ro i hli
       rw [hke] at hkr n0
       have hint := (rowI_own hkr).ints
       have n1 := (hbA.cell (p := ⟨g2, i, none⟩) hTA.tb.lt).trans n0
       have hjl := HCHL.out i hli
       obtain ⟨ma, mc, hme, hmts⟩ := HOR.out.mts (j := jj) hjm
       have hne : jj ≠ k := by have := HJJ.out; omega
       rw [(HEQ.out jj hne).2, HBEL.out, (HEQ.out jj hne).1, HBL2.out] at hme
       rw [(HEQ.out jj hne).1] at hmts
       obtain ⟨rfl, rfl⟩ : ba2 = ma ∧ bc2 = mc := by
        injection hme with h1 h2 h3
        exact ⟨h1, h3⟩
       have hkl : (chL (lvl (csl C) jj) (lvl (csl C) k) (i : Nat)).length ≤ 1024 := by
        have h0 : (chL (lvl (csl C) jj) (lvl (csl C) k) (i : Nat)).length ≤ (lsL (lvl (csl C) jj) 0 []).length := by
         unfold chL chT
         refine Nat.le_trans (List.length_filter_le _ _) ?_
         rw [List.length_range]
         exact Nat.le_refl _
        rw [ls_len (HLVL.out jj hjm).2] at h0
        exact Nat.le_trans h0 (HCNT.out jj hjm).2
       obtain ⟨X, HX⟩ := named (upD n l bs (csl C) jj i (R jj))
       have HXLN : Hid (X.length = (bdV n l bs (csl C) ((k : Int) + 1) (i : Nat)).length * (bdV n l bs (csl C) ((k : Int) + 1) (i : Nat)).length) := by
        show _ = _
        rw [← HX.out, upD_len, HJJ.out]
       have HVB : Hid (X.length ≤ 9223372036854775807 ∧ ∀ i, i < X.length → 0 ≤ X.getD i 0 ∧ X.getD i 0 ≤ N5.Inf) := by
        refine ⟨?_, ?_⟩
        ·rw [HXLN.out]
         exact Nat.le_trans (sq_le (bdV_le _ _ _ _ _ _) h1024) (by decide)
        ·rw [← HX.out]
         refine upD_val HWT.out HBND.out ?_
         rw [← HJJ.out]
         exact hjl
       obtain ⟨kl, HKL⟩ := named (chL (lvl (csl C) jj) (lvl (csl C) k) (i : Nat)).length
       have HCHO : Hid (∀ W2, Below (wr.heap.size + 1) (wr.alloc (.cells #[.int .i64 0, .int .i64 0, .int .i64 0, .slice none 0 0] 40)) W2 → Calls Tryz.prog 164 #[.slice ba2 bl2 bc2, .slice ka kl kc] W2 fun e w' => ∃ g, e = .returned (.slice (some ⟨g, 0, none⟩) kl kl) ∧ Mts w' (some ⟨g, 0, none⟩) (kidM (R jj) (chL (lvl (csl C) jj) (lvl (csl C) k) (i : Nat))) ∧ Below (wr.heap.size + 1) (wr.alloc (.cells #[.int .i64 0, .int .i64 0, .int .i64 0, .slice none 0 0] 40)) w') := fun W2 hb => by
        have hbw : Below wr.heap.size wr W2 := hbA.trans (hb.mono (by omega))
        have h := ovChosen_any ba2 (R jj) bc2 ka (chL (lvl (csl C) jj) (lvl (csl C) k) (i : Nat)) kc kl W2 HKL.out (by rw [← HKL.out]; exact hkl) (fun t ht => hjl t (by rw [HKL.out]; exact ht)) (hmts.on hbw) (hint.on hbw)
        rw [HBL2.out] at h
        refine h.mono ?_
        rintro e w' ⟨g, h1, h2, h3⟩
        exact ⟨g, h1, h2, hb.trans (h3.mono (by rw [← hzA]; exact hb.size))⟩
       have HUPC : Hid (∀ W2, Below (wr.heap.size + 1) (wr.alloc (.cells #[.int .i64 0, .int .i64 0, .int .i64 0, .slice none 0 0] 40)) W2 → ∀ g, Mts W2 (some ⟨g, 0, none⟩) (kidM (R jj) (chL (lvl (csl C) jj) (lvl (csl C) k) (i : Nat))) → Calls Tryz.prog 163 #[.agg #[.int .i64 n, .slice a l.length cap, .slice ba bs.length bc, .slice (some ⟨nx, no, none⟩) m cc, .int .i64 ep], .int .i64 ((k : Int) + 1), .int .i64 (i : Nat), .slice (some ⟨g, 0, none⟩) kl kl] W2 fun e w' => ∃ v c, e = .returned (.tuple #[.agg #[.int .i64 ((k : Int) + 1), .int .i64 (i : Nat), .int .i64 ep, .slice v X.length c], .int .i64 0]) ∧ w'.ownsRow (wr.heap.size + 1) 48 1 (.slice v X.length c) X.length (cellsU X) ∧ Below (wr.heap.size + 1) (wr.alloc (.cells #[.int .i64 0, .int .i64 0, .int .i64 0, .slice none 0 0] 40)) w') := fun W2 hb g hM => by
        have hsz2 : wr.heap.size + 1 ≤ W2.heap.size := by rw [← hzA]; exact hb.size
        have h := HUPP.out W2 (HBR.out.trans ((hbA.trans (hb.mono (by omega))).mono (by omega))) k jj i HJJ.out hkm (by rw [HCN.out]; exact hli) (R jj) (some ⟨g, 0, none⟩) kl kl HKL.out hM HFIT.out
        rw [HX.out] at h
        refine h.mono ?_
        rintro e w' ⟨v, c, h1, h2, h3⟩
        exact ⟨v, c, h1, own_base h2 hsz2, hb.trans (h3.mono hsz2)⟩
       have HGA := hid hgA
       have HBA := hid hbA
       have HPA := hid hPA
       have HNC := hid (HEQ.out jj hne)
       clear hgA hbA hPA hTA n0 hke hkr hint hjl hme hmts hne hkl
       rw [HKL.out] at n1
       go_upto_block 4 with fail
       generalize hWA : wr.alloc (.cells #[.int .i64 0, .int .i64 0, .int .i64 0, .slice none 0 0] 40) = WA at *
       clear hWA
       generalize hs : wr.heap.size = s at *
       go_cut [15, 50] from 50 to 106 (fun s15 s50 wx => s15 = .int .i64 0 ∧ s50 = .int .i64 (i : Nat) ∧ ∃ v c, Hid (wx.heap[s]? = some (.cells #[.int .i64 ((k : Int) + 1), .int .i64 (i : Nat), .int .i64 ep, .slice v X.length c] 40)) ∧ Hid (wx.ownsRow (p + 1) 48 1 (.slice v X.length c) X.length (cellsU X)) ∧ Hid (Below s wr wx))
       case first =>
        go_wp2_with fail
        go_region_law (first | (rw [if_pos (by rfl)]; go_simp; go_at_call 164; refine (HCHO.out _ (by first | exact Below.refl _ _ | exact ⟨rfl, rfl, rfl, Nat.le_refl _, fun _ _ => rfl⟩)).mono ?_; rintro e w3 ⟨g3, rfl, hm3, hb3⟩; obtain ⟨q5, q6, q7, q8, q9⟩ := five_cells ((hb3.block p (by omega)).trans HPA.out); have HM3 := hid hm3; have HB3 := hid hb3; clear hm3 hb3) | (rw [if_pos (by rfl)]; go_simp; go_at_call 163; refine (HUPC.out _ (by first | exact HB3.out | exact HB3.out.trans ⟨rfl, rfl, rfl, Nat.le_refl _, fun _ _ => rfl⟩) g3 (by first | exact HM3.out | exact HM3.out.on ⟨rfl, rfl, rfl, Nat.le_refl _, fun _ _ => rfl⟩)).mono ?_; rintro e w5 ⟨v, c, rfl, hown5, hb5⟩; obtain ⟨⟨t0, t1, t2, t3⟩, e0, e1, e2, e3⟩ := four_cells ((hb5.block s (by omega)).trans HGA.out); have HW5 := hid hown5; have HB5x := hid hb5; clear hown5 hb5))
        all_goals
         have hK5 := (HB5x.out.block s (by omega)).trans HGA.out
         have HSB := hid (set4 hK5 (.int .i64 ((k : Int) + 1)) (.int .i64 (i : Nat)) (.int .i64 ep) (.slice v X.length c))
         have hbS := below_set4 (HBA.out.trans (HB5x.out.mono (by omega))) (Nat.le_refl s) (.int .i64 ((k : Int) + 1)) (.int .i64 (i : Nat)) (.int .i64 ep) (.slice v X.length c)
         have HBS := hid hbS
         have HOW := hid (own_base (own_set4 HW5.out (show s < s + 1 by omega) (.int .i64 ((k : Int) + 1)) (.int .i64 (i : Nat)) (.int .i64 ep) (.slice v X.length c)) (show p + 1 ≤ s + 1 by omega))
         clear hK5 hbS
         go_wp2_with fail
         go_meet
         case rel => exact ⟨rfl, rfl, v, c, HSB, HOW, HBS⟩
       case rest =>
        obtain ⟨rfl, rfl, v, c, HSB, HOW, HBS⟩ := hcut
        have HOS : Hid (OS wc (p + 1) (p + 1) m rv2 R2) := HOR.out.on (by rw [hs]; exact HBS.out)
        have HTC := hid (HTR2.out.on (w' := wc) (by rw [hs]; exact HBS.out))
        have HBX : Hid (Below p w wc) := HBR.out.trans (HBS.out.mono (by omega))
        have HPX := hid ((HBS.out.block p (by omega)).trans HPR.out)
        have hz6 : s < wc.heap.size := lt_of_block HSB.out
        clear HCHO HUPC HGA HBA HPA n1 q0 q1 q2 q3 q4 HBS
        have hmf := HMK.out.snoc (x := ⟨(k : Int) + 1, (i : Nat), ep, v, c, X⟩) ⟨rfl, rfl, ⟨hep0, Int.le_refl _⟩, HXLN.out⟩ (fun _ => ⟨rfl, by show X = _; unfold nwD; rw [if_neg (by have := HJJ.out; omega), HKJ.out, HX.out]⟩) (fun h => absurd h (by rw [hx1]; decide))
        have HMF := hid hmf
        have d0 := HOS.out.tr.tb.cell hkm
        have hgl := HOS.out.tr.tb.lt
        have HKG := hid (HOS.out.tr.kg hkm)
        obtain ⟨rq, HRV⟩ := named (rv2 k)
        rw [HRV.out] at d0 HKG
        obtain ⟨⟨s0, s1, s2, s3⟩, _⟩ := four_cells HSB.out
        have hb1 : Below wc.heap.size wc ((wc.drew).alloc (.cells #[.int .i64 ((k : Int) + 1), .int .i64 (i : Nat), .int .i64 ep, .slice v X.length c] 40)) := (show Below wc.heap.size wc wc.drew from ⟨rfl, rfl, rfl, Nat.le_refl _, fun _ _ => rfl⟩).alloc (Nat.le_refl _) _
        have HB1 := hid hb1
        have HO1 := hid (own_on (HOS.out.tr.ro k hkm) hb1)
        have HNW : Hid (∀ (j : Nat) (z : Value), [Value.int .i64 ((k : Int) + 1), .int .i64 (i : Nat), .int .i64 ep, .slice v X.length c][j]? = some z → ((wc.drew).alloc (.cells #[.int .i64 ((k : Int) + 1), .int .i64 (i : Nat), .int .i64 ep, .slice v X.length c] 40)).cell? ((⟨wc.heap.size, 0, none⟩ : Addr).add j) = some z) := World.news_of_block (cs := #[.int .i64 ((k : Int) + 1), .int .i64 (i : Nat), .int .i64 ep, .slice v X.length c]) (t := 40) (fr := (0, 0)) (heap_top wc.drew _)
        have HSZ : Hid (((wc.drew).alloc (.cells #[.int .i64 ((k : Int) + 1), .int .i64 (i : Nat), .int .i64 ep, .slice v X.length c] 40)).heap.size = wc.heap.size + 1) := World.size_alloc _ _
        have hpw : p + 1 ≤ wc.heap.size := by omega
        have HBZ : Hid (p + 1 ≤ ((wc.drew).alloc (.cells #[.int .i64 ((k : Int) + 1), .int .i64 (i : Nat), .int .i64 ep, .slice v X.length c] 40)).heap.size) := by show _ ≤ _; rw [HSZ.out]; omega
        have HD0 : Hid (((wc.drew).alloc (.cells #[.int .i64 ((k : Int) + 1), .int .i64 (i : Nat), .int .i64 ep, .slice v X.length c] 40)).cell? ⟨p + 1, k, none⟩ = some rq) := (hb1.cell (p := ⟨p + 1, k, none⟩) hgl).trans d0
        have HTA : Hid (TbV ((wc.drew).alloc (.cells #[.int .i64 ((k : Int) + 1), .int .i64 (i : Nat), .int .i64 ep, .slice v X.length c] 40)) (p + 1) m 30 rv2) := HOS.out.tr.tb.same (hb1.block (p + 1) hgl)
        rw [HRV.out] at HO1
        have hRl : (R2 k).length = i := HMK.out.len
        have hln : i ≤ 1024 := by omega
        obtain ⟨CS, HCS⟩ := named (cellsM (R2 k))
        rw [HCS.out, hRl] at HO1
        have HGL : Hid (p + 1 < ((wc.drew).alloc (.cells #[.int .i64 ((k : Int) + 1), .int .i64 (i : Nat), .int .i64 ep, .slice v X.length c] 40)).heap.size) := Nat.lt_of_lt_of_le hgl hb1.size
        have z2 : (wc.alloc (.cells #[.int .i64 ((k : Int) + 1), .int .i64 (i : Nat), .int .i64 ep, .slice v X.length c] 40)).cell? ⟨p + 1, k, none⟩ = some rq := (((Below.refl wc.heap.size wc).alloc (Nat.le_refl _) (.cells #[.int .i64 ((k : Int) + 1), .int .i64 (i : Nat), .int .i64 ep, .slice v X.length c] 40)).cell (p := ⟨p + 1, k, none⟩) hgl).trans d0
        have HWZ := hid hpw
        clear hb1 hmf hpw HSB
        go_wp2_with fail
        go_region_law (refine step_append_lies _ rfl (.tmp 101) (.tmp 103) 30 rfl (p + 1) 40 iM _ 4 48 Tryz.underlying30 hiM hzM hsM hbyM rfl (by decide) rq i CS (by simp [Act.eval]) HO1.out ⟨wc.heap.size, 0, none⟩ 1 1 [.int .i64 ((k : Int) + 1), .int .i64 (i : Nat), .int .i64 ep, .slice v X.length c] (by simp [Act.eval]) rfl HNW.out (by intro u hu; simp at hu; rcases hu with rfl | rfl | rfl | rfl <;> rfl) (by decide) (by unfold maxLen; omega) (by omega) HBZ.out (wc.heap.size + 1) HSZ.out ?_; intro gg cap' w7 hown7 hgrow7 hat7 hlt7; have f0 := (hgrow7.cell_far ⟨p + 1, k, none⟩ HGL.out (fun e => HKG.out e.symm)).trans HD0.out; have f1 := TbV.free (TbV.same HTA.out (hgrow7.block (p + 1) HGL.out (fun e => HKG.out e.symm))) k; have HG7 := hid hgrow7; have HW7 := hid hown7; have HA7 := hid hat7; clear hown7 hgrow7 hat7 hlt7)
        all_goals
         rw [← HRV.out] at HG7 HA7
         rw [← HCS.out] at HW7
         have HL : Hid ((R2 k).length = i) := hRl
         have hput := HOS.out.put (x := ⟨((k : Int) + 1), (i : Nat), ep, v, c, X⟩) (gg := gg) (cap := cap') hkm HB1.out HG7.out (by rw [HL.out]; exact HW7.out) (HA7.out.imp id (fun h => by omega)) HOW.out HVB.out
         rw [HL.out] at hput
         have HBB := hid (HOS.out.tr.below hput.2 HWZ.out)
         have HFB : Hid (Below p w _) := HBX.out.trans (HBB.out.mono (by omega))
         have HFP := hid ((HBB.out.block p (by omega)).trans HPX.out)
         have HFO := hid hput.1
         have HFC := hid (HOS.out.tr.keepK hput.2 HTC.out (by decide) (by decide) (by decide) (by decide))
         clear hput HBB
         go_wp2_with fail
         refine ⟨⟨i + 1, updV rv2 k (.slice (some ⟨gg, 0, none⟩) (i + 1) cap'), fun j => if j = k then R2 k ++ [⟨((k : Int) + 1), (i : Nat), ep, v, c, X⟩] else R2 j, by omega, by simp, HFO, ?_, ?_, HFP, HFB, HFC⟩, by simp [intOf]; omega⟩
         ·intro j hj
          show (if j = k then _ else _) = _ ∧ updV rv2 k _ j = _
          rw [if_neg hj, updV_ne _ _ hj]
          exact HEQ.out j hj
         ·show Mk _ _ _ _ _ _ _ _ _ (if k = k then _ else _) _
          rw [if_pos rfl]
          exact HMF.out
     ·have hli' : ¬ (i : Int) < cn := by omega
      obtain rfl : i = cn := by omega
      go_wp2_with fail
      refine ⟨⟨k + 1, rv2, R2, by omega, by simp, HOR, fun j hj => ?_, fun j hj => ?_, HPR, HBR⟩, by simp [intOf]; omega⟩
      ·rw [(HEQ.out j (by omega)).1]
       exact HRE.out j (by omega)
      ·by_cases e : j = k
       ·subst e
        have h := HMK.out
        rw [← HCN.out] at h
        rw [HXS.out]
        by_cases e0 : j = 0
        ·rw [e0] at h ⊢
         have e1 : (0 : Nat) - 1 = 0 := rfl
         exact Mk.prev0 h
        ·rw [(HEQ.out (j - 1) (by omega)).1]
         exact h
       ·rw [(HEQ.out j e).1]
        by_cases e0 : j = 0
        ·have h := HMK0.out j (by omega)
         rw [e0] at h ⊢
         exact Mk.prev0 h
        ·rw [(HEQ.out (j - 1) (by omega)).1]
         exact HMK0.out j (by omega)
  ·have hkm' : ¬ (k : Int) < m := by omega
   obtain rfl : k = m := by omega
   go_wp2_with fail
   go_ret2
   first | exact ⟨p + 1, rv, R, rfl, HO5.out.base (by omega), HMK0.out, HB5.out⟩ | exact ⟨p + 1, rfl, ⟨rv, R, HO5.out.base (by omega), HMK0.out⟩, HB5.out⟩ | exact ⟨p + 1, rfl, rv, R, HO5.out.base (by omega), HMK0.out, HB5.out⟩
end Go.Proofs.YtaafkpojjdjphaaGreat
