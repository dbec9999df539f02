import Derived.Test.YtaafkpojjdjphaaGreatQAL
open Go.Lib (hid)
set_option maxRecDepth 100000
namespace Go.Proofs.YtaafkpojjdjphaaGreat
open Go.RowKit
theorem info25 : (Tryz.prog.info? 25).map (fun i => (i.zero, i.size, i.bytes)) = some (some (.slice none 0 0), 1, 24) := by kernel_rfl
theorem made_sl (n : Nat) : madeCells (Value.slice none 0 0).cells (n * 1) = ((List.range n).map (fun _ => Value.slice none 0 0)).toArray := by
 apply Array.ext'
 show (madeCells #[Value.slice none 0 0] (n * 1)).toList = _
 rw [toList_madeCells_one, Nat.mul_one]
 apply List.ext_getElem
 ·simp
 ·intro i h1 h2
  simp
set_option maxHeartbeats 1600000 in
theorem touched_any (b : Option Addr) (L : List Int) (bc n : Nat) (a : Option Addr) (l : List A) (cap : Nat) (d : Option Addr) (ids : List Int) (dc : Nat) (w : World) (hLn : L.length = n) (hC : chkE n l = 0) (hT : ∀ v, v < n → 0 ≤ L.getD v 0 ∧ L.getD v 0 < n) (h8 : ids.length ≤ 16384) (hd : ∀ i, i < ids.length → 0 ≤ ids.getD i 0 ∧ ids.getD i 0 < l.length) (hr : Arcs w a l) (hi : Ints w b L) (hj : Ints w d ids) :
  Calls Tryz.prog 107 #[.slice b L.length bc, .agg #[.int .i64 n, .slice a l.length cap], .slice d ids.length dc] w fun e w' => ∃ g, e = .returned (.slice (some ⟨g, 0, none⟩) n n) ∧ w.heap.size ≤ g ∧ TbV w' g n 4 (boV (tcP L l ids ids.length)) ∧ Below w.heap.size w w' := by
 have hb0 : Below w.heap.size w (w.alloc (.cells #[.int .i64 n, .slice a l.length cap] 24)) := (Below.refl _ _).alloc (Nat.le_refl _) _
 have hg := heap_top w (.cells #[.int .i64 n, .slice a l.length cap] 24)
 have HGG := hid hg
 obtain ⟨⟨c0, c1⟩, _⟩ := two_cells hg
 have hL : n ≤ 1024 := by have := (chk_zero hC).2.1; omega
 have hl8 : l.length ≤ 8192 := (chk_zero hC).2.2.1
 obtain ⟨i4, hi4, hz4, hs4, hby4⟩ := info_parts info4
 have hmk : ∀ w, (Instr.makeSlice 160 (.int .i64 n) (.int .i64 n)).run Tryz.prog w = .ok (.slice (some ⟨w.heap.size, 0, none⟩) n n) (w.alloc (.cells ((List.range n).map (fun _ => Value.bool false)).toArray 4)) := fun w => by
  have := run_make (P := Tryz.prog) w 160 4 i4 (.bool false) Tryz.underlying160 hi4 hz4 .i64 .i64 n n (by omega) (by omega) (by rw [hby4]; omega) (by omega)
  rw [hs4] at this
  rw [this, Int.toNat_natCast, made_bool]
 obtain ⟨ix, ox, hix⟩ := hr.get
 obtain ⟨iy, oy, hiy⟩ := hi.get
 obtain ⟨iz, oz, hiz⟩ := hj.get
 have HIX := hid hix
 have HIY := hid hiy
 have HIZ := hid hiz
 have HIN : Hid (∀ j, j < l.length → inA n (l.getD j A.zero)) := fun j hj => chk_in hC hj
 have HI := hid hi
 have HB0 := hid hb0
 have HT := hid hT
 have HD := hid hd
 have HN := hid hLn
 rw [hLn]
 clear hr hi hj hix hiy hiz hC hb0 hT hd hLn
 generalize hp : w.heap.size = p at *
 go_enter Tryz.func107, Tryz.ntmps107
 go_wp2_with fail
 have hw1 : (w.alloc (.cells #[.int .i64 n, .slice a l.length cap] 24)).heap.size = p + 1 := by simp [hp]
 generalize hW : (w.alloc (.cells #[.int .i64 n, .slice a l.length cap] 24)) = W at *
 clear hW hg
 have HT0 : Hid (TbV (W.alloc (.cells ((List.range n).map (fun _ => Value.bool false)).toArray 4)) (p + 1) n 4 (boV (tcP L l ids 0))) := by
  have h := heap_top W (.cells ((List.range n).map (fun _ => Value.bool false)).toArray 4)
  rw [hw1] at h
  show TbV _ _ _ _ _
  unfold TbV
  rw [h]
  congr 3
 have HB1 : Hid (Below p w (W.alloc (.cells ((List.range n).map (fun _ => Value.bool false)).toArray 4))) := HB0.out.alloc (by omega) _
 have HG1 : Hid ((W.alloc (.cells ((List.range n).map (fun _ => Value.bool false)).toArray 4)).heap[p]? = some (.cells #[.int .i64 n, .slice a l.length cap] 24)) := (Below.heap_alloc _ _ _ (by omega)).trans HGG.out
 generalize W.alloc (.cells ((List.range n).map (fun _ => Value.bool false)).toArray 4) = V at *
 clear c0 c1 HB0 hw1 hmk HGG
 go_loopw [16] (fun i wr => ∃ (k : Nat), k ≤ ids.length ∧ i = .int .i64 k ∧ Hid (TbV wr (p + 1) n 4 (boV (tcP L l ids k))) ∧ Hid (wr.heap[p]? = some (.cells #[.int .i64 n, .slice a l.length cap] 24)) ∧ Hid (Below p w wr)) (fun i _ => ids.length - (intOf i).toNat)
 case atStart => exact ⟨0, Nat.zero_le _, rfl, HT0, HG1, HB1⟩
 case round =>
  obtain ⟨k, hk, rfl, HTR, HGR, HBR⟩ := hrel
  have hwr : p + 1 < wr.heap.size := HTR.out.lt
  by_cases hlk : k < ids.length
  ·have hlk' : (k : Int) < ids.length := by omega
   obtain ⟨rfl, hzl, hzat⟩ := HIZ.out (by omega)
   have s0 := (HBR.out.cell (p := ⟨iz, oz + k, none⟩) (hp ▸ hzl)).trans (hzat k hlk)
   have HCT := hid (tcP_t (L := L) (l := l) hlk)
   have HCF := hid (tcP_f (L := L) (l := l) hlk)
   obtain ⟨d0, d1⟩ := HD.out k hlk
   obtain ⟨i, HII⟩ : ∃ i : Nat, Hid (ids.getD k 0 = (i : Int)) := ⟨(ids.getD k 0).toNat, by show _ = _; omega⟩
   rw [HII.out, Int.toNat_natCast] at HCT HCF
   rw [HII.out] at s0 d0 d1
   have hil : i < l.length := by omega
   obtain ⟨rfl, hbl, hat⟩ := HIX.out (by omega)
   obtain ⟨x0, x1, x2⟩ := hat i hil
   have y0 := (HBR.out.cell (p := ⟨ix, ox + i * 3, none⟩) (hp ▸ hbl)).trans x0
   have y1 := (HBR.out.cell (p := ⟨ix, ox + i * 3 + 1, none⟩) (hp ▸ hbl)).trans x1
   have y2 := (HBR.out.cell (p := ⟨ix, ox + i * 3 + 2, none⟩) (hp ▸ hbl)).trans x2
   have hin := HIN.out i hil
   generalize l.getD i A.zero = x at *
   obtain ⟨xf, xt, xw⟩ := x
   obtain ⟨⟨f0, f1⟩, t0, t1⟩ := hin
   simp only at f0 f1 t0 t1 y0 y1 y2
   obtain ⟨u, rfl⟩ : ∃ u : Nat, xf = u := ⟨xf.toNat, by omega⟩
   obtain ⟨v, rfl⟩ : ∃ v : Nat, xt = v := ⟨xt.toNat, by omega⟩
   obtain ⟨P, HP⟩ := named (prt L ⟨u, v, xw⟩)
   have HPT : Hid (∀ W2, Below p w W2 → Calls Tryz.prog 90 #[.slice b n bc, .agg #[.int .i64 u, .int .i64 v, .int .u32 xw]] W2 fun e w' => e = .returned (.bool P) ∧ Below W2.heap.size W2 w') := by
    intro W2 hb
    have := cePart_any b L bc ⟨u, v, xw⟩ W2 (by rw [HN.out]; exact ⟨⟨f0, f1⟩, t0, t1⟩) (by rw [HN.out]; exact hL) (HI.out.on (hp ▸ hb))
    rw [HN.out, HP.out] at this
    exact this
   obtain ⟨rfl, hyl, hyat⟩ := HIY.out (by rw [HN.out]; omega)
   have z0 := hyat u (by rw [HN.out]; omega)
   obtain ⟨e0, e1⟩ := HT.out u (by omega)
   have HLB : Hid (lb L (u : Int) = L.getD u 0) := by show _ = _; unfold lb; rw [Int.toNat_natCast]
   obtain ⟨y, HY⟩ : ∃ y : Nat, Hid (L.getD u 0 = (y : Int)) := ⟨(L.getD u 0).toNat, by show _ = _; omega⟩
   rw [HY.out] at z0 e0 e1 HLB
   have Z0 := hid z0
   have hyn : y < n := by omega
   clear x0 x1 x2 hat hyat hzat z0
   have HB2 : Hid (Below p w (wr.alloc (.cells #[.int .i64 u, .int .i64 v, .int .u32 xw] 109))) := HBR.out.alloc (by omega) _
   have HG2 := hid (heap_top wr (.cells #[.int .i64 u, .int .i64 v, .int .u32 xw] 109))
   have HT2 : Hid (TbV (wr.alloc (.cells #[.int .i64 u, .int .i64 v, .int .u32 xw] 109)) (p + 1) n 4 (boV (tcP L l ids k))) := HTR.out.same (Below.heap_alloc _ _ _ hwr)
   have HGB : Hid ((wr.alloc (.cells #[.int .i64 u, .int .i64 v, .int .u32 xw] 109)).heap[p]? = some (.cells #[.int .i64 n, .slice (some ⟨ix, ox, none⟩) l.length cap] 24)) := (Below.heap_alloc _ _ _ (by omega)).trans HGR.out
   obtain ⟨⟨k0, k1⟩, _⟩ := two_cells HGR.out
   have hii : (i : Int) < l.length := by omega
   go_wp2_with fail
   refine (HPT.out _ HB2.out).mono ?_
   rintro e w2 ⟨rfl, hb2⟩
   have HT3 : Hid (TbV w2 (p + 1) n 4 (boV (tcP L l ids k))) := HT2.out.same (hb2.block _ HT2.out.lt)
   have hG3 := (hb2.block _ (lt_of_block HG2.out)).trans HG2.out
   have HGC : Hid (w2.heap[p]? = some (.cells #[.int .i64 n, .slice (some ⟨ix, ox, none⟩) l.length cap] 24)) := (hb2.block _ (lt_of_block HGB.out)).trans HGB.out
   obtain ⟨z0, z1, z2⟩ := three_cells hG3
   have HB3 : Hid (Below p w w2) := HB2.out.trans (hb2.mono (by simp; omega))
   have l0 := (HB3.out.cell (p := ⟨iy, oy + u, none⟩) (hp ▸ hyl)).trans Z0.out
   have hu' : (u : Int) < n := by omega
   have hy' : (y : Int) < n := by omega
   clear HG2 HT2 HB2 hb2 y0 y1 y2 HGB k0 k1 hG3 z1 z2 s0
   generalize wr.heap.size = q at *
   rcases P with _ | _
   ·have q0 := HT3.out.free y
    have r0 := HT3.out.cell (v := y) hyn
    have HTN : Hid (TbV (w2.setCell ⟨p + 1, y, none⟩ (.bool true)) (p + 1) n 4 (boV (tcP L l ids (k + 1)))) := (HT3.out.set y (.bool true)).congr (fun c _ => by
     rw [boV_set]
     show Value.bool _ = Value.bool _
     rw [HCT.out HP.out]
     simp only [HLB.out, Int.toNat_natCast])
    have HBN : Hid (Below p w (w2.setCell ⟨p + 1, y, none⟩ (.bool true))) := HB3.out.setCell (p := ⟨p + 1, y, none⟩) (by simp) _
    have HGN : Hid ((w2.setCell ⟨p + 1, y, none⟩ (.bool true)).heap[p]? = some (.cells #[.int .i64 n, .slice (some ⟨ix, ox, none⟩) l.length cap] 24)) := (Below.heap_setCell w2 ⟨p + 1, y, none⟩ _ p (by show p ≠ p + 1; omega)).trans HGC.out
    go_wp2_with fail
    exact ⟨⟨k + 1, by omega, by simp, HTN, HGN, HBN⟩, by simp [intOf]; omega⟩
   ·have HTN : Hid (TbV w2 (p + 1) n 4 (boV (tcP L l ids (k + 1)))) := HT3.out.congr (fun c _ => by show Value.bool _ = Value.bool _; rw [HCF.out HP.out])
    go_wp2_with fail
    exact ⟨⟨k + 1, by omega, by simp, HTN, HGC, HB3⟩, by simp [intOf]; omega⟩
  ·have hlk' : ¬ (k : Int) < ids.length := by omega
   obtain rfl : k = ids.length := by omega
   go_wp2_with fail
   go_ret
   exact ⟨p + 1, rfl, by omega, HTR.out, HBR.out⟩
set_option maxHeartbeats 1600000 in
theorem ceS1_any (c n b1 g : Nat) (T : Nat → Bool) (w : World) (hc : c < n) (c1 : w.cell? ⟨b1, 0, none⟩ = some (.slice (some ⟨g, 0, none⟩) n n)) (hT : TbV w g n 4 (boV T)) :
  Calls Tryz.prog 109 #[.int .i64 c, .pointer (some ⟨b1, 0, none⟩)] w fun e w' => e = .returned (.bool (T c)) ∧ Below w.heap.size w w' := by
 have d2 := hT.cell hc
 have e2 : boV T c = .bool (T c) := rfl
 rw [e2] at d2
 have hc1 : (c : Int) < n := by omega
 clear e2 hT
 generalize T c = tv at *
 go_enter Tryz.func109, Tryz.ntmps109
 go_wp2_with fail
 go_ret
 exact ⟨rfl, Below.refl _ _⟩
def stE (N : Int) (l : List A) (bs : List Int) (cs : List (List Int)) (ids : List Int) : Int := if nsE N l bs cs ≠ 0 then nsE N l bs cs else if 16384 < ids.length then 2 else if ids.all (fun i => decide (0 ≤ i ∧ i < (l.length : Int))) then 0 else 5
def rwV (n : Nat) (cs : List (List Int)) (l : List A) (ids : List Int) (vs : Nat → Option Addr) (k j : Nat) : Value := if j < k then .slice (vs j) (tcL n (lvl cs j) l ids).length (tcL n (lvl cs j) l ids).length else .slice none 0 0
theorem rwV_step (n : Nat) (cs : List (List Int)) (l : List A) (ids : List Int) (vs : Nat → Option Addr) (k : Nat) (v : Option Addr) (j : Nat) : updV (rwV n cs l ids vs k) k (.slice v (tcL n (lvl cs k) l ids).length (tcL n (lvl cs k) l ids).length) j = rwV n cs l ids (fun y => if y = k then v else vs y) (k + 1) j := by
 unfold updV rwV
 by_cases h : j = k
 ·subst h; simp
 ·by_cases h2 : j < k
  ·rw [if_neg h, if_pos h2, if_pos (by omega)]; simp [h]
  ·rw [if_neg h, if_neg h2, if_neg (by omega)]
theorem all_take_I {xs : List Int} {p : Int → Bool} {k : Nat} (hk : k < xs.length) (h : (xs.take k).all p = true) (hp : p (xs.getD k 0) = true) : (xs.take (k + 1)).all p = true := by
 rw [take_snocI hk, List.all_append, h]
 simp only [List.all_cons, List.all_nil, Bool.and_true, Bool.true_and]
 exact hp
theorem all_at_I {xs : List Int} {p : Int → Bool} (h : xs.all p = true) {k : Nat} (hk : k < xs.length) : p (xs.getD k 0) = true := by
 rw [List.all_eq_true] at h
 refine h _ ?_
 rw [show xs.getD k 0 = xs[k] by simp [List.getD, List.getElem?_eq_getElem hk]]
 exact List.getElem_mem hk
theorem all_not_I {xs : List Int} {p : Int → Bool} {k : Nat} (hk : k < xs.length) (hp : p (xs.getD k 0) = false) : xs.all p = false := by
 cases h : xs.all p with
 | false => rfl
 | true => rw [all_at_I h hk] at hp; cases hp
def stC (n : Nat) (cs : List (List Int)) (l : List A) (ids : List Int) (vs : Nat → Option Addr) (m : Nat) : List Cl := (List.range m).map (fun j => ⟨vs j, (tcL n (lvl cs j) l ids).length, ints (tcL n (lvl cs j) l ids)⟩)
theorem stC_len (n : Nat) (cs : List (List Int)) (l : List A) (ids : List Int) (vs : Nat → Option Addr) (m : Nat) : (stC n cs l ids vs m).length = m := by simp [stC]
theorem stC_at {n : Nat} {cs : List (List Int)} {l : List A} {ids : List Int} {vs : Nat → Option Addr} {m j : Nat} (hj : j < m) : cl (stC n cs l ids vs m) j = ⟨vs j, (tcL n (lvl cs j) l ids).length, ints (tcL n (lvl cs j) l ids)⟩ := by
 simp [cl, stC, List.getD, hj]
theorem stC_rws {w : World} {g n m B : Nat} {cs : List (List Int)} {l : List A} {ids : List Int} {vs : Nat → Option Addr} (hn : n ≤ 1024) (hT : TbV w g m 25 (rwV n cs l ids vs m)) (hR : ∀ j, j < m → RowI w B (vs j) (ints (tcL n (lvl cs j) l ids))) : Rws w (some ⟨g, 0, none⟩) (stC n cs l ids vs m) := by
 refine ⟨.inr ⟨g, 0, rfl, hT.lt, fun j hj => ?_⟩, fun j hj => ?_⟩
 ·rw [stC_len] at hj
  rw [Nat.zero_add, hT.cell hj, stC_at hj]
  unfold rwV Cl.val
  rw [if_pos hj, ints_len]
 ·rw [stC_len] at hj
  rw [stC_at hj]
  refine ⟨(hR j hj).ints, ?_⟩
  show (ints _).length ≤ _
  rw [ints_len]
  have := cho_len (tcP (lvl cs j) l ids ids.length) n
  unfold tcL
  omega
set_option maxHeartbeats 1600000 in
theorem stale_any (N : Int) (a : Option Addr) (l : List A) (cap : Nat) (ba : Option Addr) (bs : List Int) (bc : Nat) (ca : Option Addr) (C : List Cl) (cc : Nat) (d : Option Addr) (ids : List Int) (dc : Nat) (w : World) (hl : l.length ≤ 9223372036854775807) (hbl : bs.length ≤ 9223372036854775807) (hr : Arcs w a l) (hi : Ints w ba bs) (hR : Rws w ca C) (hdl : ids.length ≤ 9223372036854775807) (hj : Ints w d ids) :
  Calls Tryz.prog 52 #[.agg #[.int .i64 N, .slice a l.length cap], .agg #[.slice ba bs.length bc, .slice ca C.length cc], .slice d ids.length dc] w fun e w' => (stE N l bs (csl C) ids = 0 → ∃ g vs, e = .returned (.tuple #[.slice (some ⟨g, 0, none⟩) C.length C.length, .int .i64 0]) ∧ Rws w' (some ⟨g, 0, none⟩) (stC N.toNat (csl C) l ids vs C.length)) ∧ (stE N l bs (csl C) ids ≠ 0 → e = .returned (.tuple #[.slice none 0 0, .int .i64 (stE N l bs (csl C) ids)])) ∧ Below w.heap.size w w' := by
 have hb0 : Below w.heap.size w ((w.alloc (.cells #[.int .i64 N, .slice a l.length cap] 24)).alloc (.cells #[.slice ba bs.length bc, .slice ca C.length cc] 28)) := (top2 w _ _).2.2.1
 have hg0 := (top2 w (.cells #[.int .i64 N, .slice a l.length cap] 24) (.cells #[.slice ba bs.length bc, .slice ca C.length cc] 28)).1
 have hg1 := (top2 w (.cells #[.int .i64 N, .slice a l.length cap] 24) (.cells #[.slice ba bs.length bc, .slice ca C.length cc] 28)).2.1
 have hsz := (top2 w (.cells #[.int .i64 N, .slice a l.length cap] 24) (.cells #[.slice ba bs.length bc, .slice ca C.length cc] 28)).2.2.2
 obtain ⟨⟨a0, a1⟩, _⟩ := two_cells hg0
 obtain ⟨⟨a2, a3⟩, _⟩ := two_cells hg1
 have HB0 := hid hb0
 have HCK := hid (ncheck_any N a l cap ba bs bc ca C cc _ hl hbl (hr.on hb0) (hi.on hb0) (hR.on hb0))
 obtain ⟨E, HE⟩ := named (nsE N l bs (csl C))
 generalize nsW N l bs (csl C) = nw at *
 rw [HE.out] at HCK
 have HG0 := hid hg0
 have HG1 := hid hg1
 have HST : Hid (stE N l bs (csl C) ids = if E ≠ 0 then E else if 16384 < ids.length then 2 else if ids.all (fun i => decide (0 ≤ i ∧ i < (l.length : Int))) then 0 else 5) := by
  show _ = _
  unfold stE
  rw [HE.out]
 obtain ⟨S, HSS⟩ := named (stE N l bs (csl C) ids)
 rw [HSS.out] at HST
 rw [HSS.out]
 have HRA := hid hr
 have HRR := hid hR
 have HJ := hid hj
 clear hr hi hR hj hb0 HSS
 generalize hp : w.heap.size = p at *
 go_enter Tryz.func52, Tryz.ntmps52
 go_wp2_with fail
 generalize hW : (w.alloc (.cells #[.int .i64 N, .slice a l.length cap] 24)).alloc (.cells #[.slice ba bs.length bc, .slice ca C.length cc] 28) = W at *
 clear hW
 refine HCK.out.mono ?_
 rintro e w1 ⟨rfl, hb1⟩
 have HB1 : Hid (Below p w w1) := HB0.out.trans (hb1.mono (by omega))
 have HG0 : Hid (w1.heap[p]? = some (.cells #[.int .i64 N, .slice a l.length cap] 24)) := (hb1.block p (by omega)).trans HG0.out
 have HG1 : Hid (w1.heap[p + 1]? = some (.cells #[.slice ba bs.length bc, .slice ca C.length cc] 28)) := (hb1.block (p + 1) (by omega)).trans HG1.out
 have hw1 : p + 2 ≤ w1.heap.size := by have := hb1.size; omega
 clear a0 a1 a2 a3 hg0 hg1 hb1 HCK HB0
 obtain ⟨⟨a0, a1⟩, _⟩ := two_cells HG0.out
 obtain ⟨⟨a2, a3⟩, _⟩ := two_cells HG1.out
 by_cases hE : E = 0
 ·subst hE
  have HST : Hid (S = if 16384 < ids.length then 2 else if ids.all (fun i => decide (0 ≤ i ∧ i < (l.length : Int))) then 0 else 5) := by
   show _ = _
   rw [HST.out, if_neg (by simp)]
  by_cases h16 : 16384 < ids.length
  ·have h16' : (16384 : Int) < ids.length := by omega
   obtain rfl : S = 2 := by rw [HST.out, if_pos h16]
   go_wp2_with fail
   go_ret2
   first | exact ⟨rfl, HB1.out⟩ | exact ⟨(fun h => absurd h (by decide)), (fun _ => rfl), HB1.out⟩
  ·have h16' : ¬ (16384 : Int) < ids.length := by omega
   have HST : Hid (S = if ids.all (fun i => decide (0 ≤ i ∧ i < (l.length : Int))) then 0 else 5) := by
    show _ = _
    rw [HST.out, if_neg h16]
   obtain ⟨iz, oz, hiz⟩ := HJ.out.get
   have HIZ := hid hiz
   clear hiz
   go_wp2_with fail
   go_loop [30] (fun i => ∃ (k : Nat), k ≤ ids.length ∧ i = .int .i64 k ∧ Hid ((ids.take k).all (fun i => decide (0 ≤ i ∧ i < (l.length : Int))) = true)) (fun i => ids.length - (intOf i).toNat)
   case atStart => exact ⟨0, Nat.zero_le _, rfl, by show _ = _; simp⟩
   case round =>
    obtain ⟨k, hk, rfl, HK⟩ := hrel
    by_cases hlk : k < ids.length
    ·have hlk' : (k : Int) < ids.length := by omega
     obtain ⟨rfl, hzl, hzat⟩ := HIZ.out (by omega)
     have s0 := (HB1.out.cell (p := ⟨iz, oz + k, none⟩) (hp ▸ hzl)).trans (hzat k hlk)
     have HT := hid (all_take_I (p := fun i => decide (0 ≤ i ∧ i < (l.length : Int))) hlk HK.out)
     have HF := hid (all_not_I (p := fun i => decide (0 ≤ i ∧ i < (l.length : Int))) hlk)
     generalize ids.getD k 0 = x at *
     clear hzat
     by_cases h1 : x < 0
     ·obtain rfl : S = 5 := by rw [HST.out, if_neg (by rw [HF.out (decide_eq_false (by omega))]; simp)]
      go_wp2_with fail
      go_ret2
      first | exact ⟨rfl, HB1.out⟩ | exact ⟨(fun h => absurd h (by decide)), (fun _ => rfl), HB1.out⟩
     ·by_cases h2 : (l.length : Int) ≤ x
      ·obtain rfl : S = 5 := by rw [HST.out, if_neg (by rw [HF.out (decide_eq_false (by omega))]; simp)]
       go_wp2_with fail
       go_ret2
       first | exact ⟨rfl, HB1.out⟩ | exact ⟨(fun h => absurd h (by decide)), (fun _ => rfl), HB1.out⟩
      ·have HK2 : Hid ((ids.take (k + 1)).all (fun i => decide (0 ≤ i ∧ i < (l.length : Int))) = true) := HT.out (decide_eq_true (by omega))
       go_wp2_with fail
       exact ⟨⟨k + 1, by omega, by simp, HK2⟩, by simp [intOf]; omega⟩
    ·obtain rfl : k = ids.length := by omega
     have hlk' : ¬ (ids.length : Int) < ids.length := by omega
     have HAL := HK.out
     rw [List.take_length] at HAL
     obtain rfl : S = 0 := by rw [HST.out, if_pos HAL]
     have HALL := hid HAL
     have hNR := nsE_zero.1 HE.out
     have h1024 := (chk_zero hNR.1).2.1
     have h0N := (chk_zero hNR.1).1
     obtain ⟨n, hn⟩ : ∃ n : Nat, N = n := ⟨N.toNat, by omega⟩
     subst hn
     have hcl : C.length = bs.length := by have := hNR.2.2.2.1; rw [csl_len] at this; exact this
     have h5 : C.length ≤ 5 := by have := hNR.2.2.1; omega
     have HNR := hid hNR
     have HCL := hid hcl
     have hn8 : n ≤ 1024 := by omega
     obtain ⟨i25, hi25, hz25, hs25, hby25⟩ := info_parts info25
     have hmk : ∀ w, (Instr.makeSlice 26 (.int .i64 C.length) (.int .i64 C.length)).run Tryz.prog w = .ok (.slice (some ⟨w.heap.size, 0, none⟩) C.length C.length) (w.alloc (.cells ((List.range C.length).map (fun _ => Value.slice none 0 0)).toArray 25)) := fun w => by
      have := run_make (P := Tryz.prog) w 26 25 i25 (.slice none 0 0) Tryz.underlying26 hi25 hz25 .i64 .i64 C.length C.length (by omega) (by omega) (by rw [hby25]; omega) (by omega)
      rw [hs25] at this
      rw [this, Int.toNat_natCast, made_sl]
     have HD : Hid (∀ i, i < ids.length → 0 ≤ ids.getD i 0 ∧ ids.getD i 0 < l.length) := fun i hi => by have := all_at_I HALL.out hi; simpa using this
     have HBA : Hid (Below p w (w1.alloc (.cells ((List.range C.length).map (fun _ => Value.slice none 0 0)).toArray 25))) := HB1.out.alloc (by omega) _
     have HBX : Hid (Below w1.heap.size w1 (w1.alloc (.cells ((List.range C.length).map (fun _ => Value.slice none 0 0)).toArray 25))) := (Below.refl _ _).alloc (Nat.le_refl _) _
     have HT0 : Hid (TbV (w1.alloc (.cells ((List.range C.length).map (fun _ => Value.slice none 0 0)).toArray 25)) w1.heap.size C.length 25 (rwV n (csl C) l ids (fun _ => none) 0)) := by
      have h := heap_top w1 (.cells ((List.range C.length).map (fun _ => Value.slice none 0 0)).toArray 25)
      show TbV _ _ _ _ _
      unfold TbV
      rw [h]
      congr 3
     have b1 := (HBX.out.cell (p := ⟨p + 1, 1, none⟩) (by show p + 1 < _; omega)).trans a3
     obtain ⟨bx, ox, hbx⟩ := HRR.out.get
     have HBXX := hid hbx
     clear hbx hNR hcl HAL HK HST HIZ a2 hlk'
     go_wp2_with fail
     generalize w1.alloc (.cells ((List.range C.length).map (fun _ => Value.slice none 0 0)).toArray 25) = w2 at *
     clear a0 a1 a3 b1 hmk hi25 hz25 hs25 hby25
     have HGW := hid HG0.out
     go_loopw [51] (fun i wr => ∃ (k : Nat) (vs : Nat → Option Addr), k ≤ C.length ∧ i = .int .i64 k ∧ Hid (TbV wr w1.heap.size C.length 25 (rwV n (csl C) l ids vs k)) ∧ Hid (∀ j, j < k → RowI wr (w1.heap.size + 1) (vs j) (ints (tcL n (lvl (csl C) j) l ids))) ∧ Hid (Below w1.heap.size w1 wr)) (fun i _ => C.length - (intOf i).toNat)
     case atStart => exact ⟨0, fun _ => none, Nat.zero_le _, rfl, HT0, fun j hj => absurd hj (by omega), HBX⟩
     case round =>
      clear HT0 HBX HBA
      obtain ⟨k, vs, hk, rfl, HTR, HRR2, HBR⟩ := hrel
      by_cases hlk : k < C.length
      ·have hlk' : (k : Int) < C.length := by omega
       have hbw : Below p w wr := HB1.out.trans (HBR.out.mono (by omega))
       have HBW := hid hbw
       obtain ⟨rfl, hbl2, hcell⟩ := HBXX.out (by omega)
       have d0 := (hbw.cell (p := ⟨bx, ox + k, none⟩) (hp ▸ hbl2)).trans (hcell k hlk)
       unfold Cl.val at d0
       have hkb : k < bs.length := by have := HCL.out; omega
       obtain ⟨hLn, hty, _, _⟩ := HNR.out.lv hkb
       have hIL := ((HRR.out.2 k hlk).1.on (hp ▸ hbw))
       have HRN := hid (rwV_step n (csl C) l ids vs k)
       have HTL : Hid (tcL n (lvl (csl C) k) l ids = cho (tcP (lvl (csl C) k) l ids ids.length) n) := rfl
       rw [csl_at] at hLn hty HRN HTL
       obtain ⟨L, va, vc, HLL, HVA, HVC⟩ : ∃ L va vc, Hid ((cl C k).xs = L) ∧ Hid ((cl C k).a = va) ∧ Hid ((cl C k).c = vc) := ⟨_, _, _, rfl, rfl, rfl⟩
       rw [HLL.out] at hLn hty hIL d0 HRN HTL
       rw [HVA.out] at d0 hIL
       rw [HVC.out] at d0
       have hLn' : L.length = n := by omega
       have hC0 : chkE n l = 0 := HNR.out.1
       have hLT : ∀ v, v < n → 0 ≤ L.getD v 0 ∧ L.getD v 0 < n := fun v hv => by
        obtain ⟨y, h1, h2⟩ := right_lt hty (u := v) (by rw [hLn']; exact hv)
        have h3 := szL_length L
        rw [h1]
        omega
       have HTC := hid (touched_any va L vc n a l cap d ids dc wr hLn' hC0 hLT (by omega) HD.out (HRA.out.on (hp ▸ hbw)) hIL (HJ.out.on (hp ▸ hbw)))
       rw [hLn'] at HTC d0
       obtain ⟨⟨a0, a1⟩, _⟩ := two_cells ((HBR.out.block p (by omega)).trans HGW.out)
       have hmf : ∀ (fn : Fn) (first cap : Array Value) (w : World), (Instr.makeFunc fn first cap).run Tryz.prog w = .ok (.func fn first cap) w := fun _ _ _ _ => rfl
       have hgw : w1.heap.size < wr.heap.size := HTR.out.lt
       clear hcell hIL hLT hC0 hty hLn hbw hLn'
       go_wp2_with fail
       refine HTC.out.mono ?_
       rintro e w3 ⟨g, rfl, hgV, hT3, hb3⟩
       have hz3 := hb3.size
       have hg3 : g < w3.heap.size := hT3.lt
       have HB4 : Hid (Below w1.heap.size w1 (w3.alloc (.cells #[.slice (some ⟨g, 0, none⟩) n n] 160))) := (HBR.out.trans (hb3.mono (by omega))).alloc (by omega) _
       have HBV : Hid (Below wr.heap.size wr (w3.alloc (.cells #[.slice (some ⟨g, 0, none⟩) n n] 160))) := hb3.alloc (by omega) _
       have HG4 := hid (heap_top w3 (.cells #[.slice (some ⟨g, 0, none⟩) n n] 160))
       have HT4 : Hid (TbV (w3.alloc (.cells #[.slice (some ⟨g, 0, none⟩) n n] 160)) g n 4 (boV (tcP L l ids ids.length))) := hT3.same (Below.heap_alloc _ _ _ hg3)
       have i0 := cell_of_one HG4.out
       have hu1 : (w3.alloc (.cells #[.slice (some ⟨g, 0, none⟩) n n] 160)).heap.size = w3.heap.size + 1 := by simp
       clear HTC hT3 hb3 a0 a1 d0
       go_wp2_with fail
       generalize hU : w3.alloc (.cells #[.slice (some ⟨g, 0, none⟩) n n] 160) = U at *
       clear hU
       refine (chosenS_any n (tcP L l ids ids.length) (.pointer (some ⟨w3.heap.size, 0, none⟩)) U (by omega) (fun c hc W2 hb => ?_)).mono ?_
       ·exact ceS1_any c n w3.heap.size g (tcP L l ids ids.length) W2 hc ((hb.cell (p := ⟨w3.heap.size, 0, none⟩) (by show w3.heap.size < _; omega)).trans (cell_of_one HG4.out)) (HT4.out.same (hb.block g (by omega)))
       ·rintro e w5 ⟨v, rfl, hrow5, hb5⟩
        have HB5 : Hid (Below w1.heap.size w1 w5) := HB4.out.trans (hb5.mono (by omega))
        have hbV5 : Below wr.heap.size wr w5 := HBV.out.trans (hb5.mono (by omega))
        have HT5 : Hid (TbV w5 w1.heap.size C.length 25 (rwV n (csl C) l ids vs k)) := HTR.out.same (hbV5.block _ hgw)
        have q0 := HT5.out.free k
        have r0 := HT5.out.cell hlk
        rw [← HTL.out] at hrow5
        obtain ⟨m5, HM5⟩ := named (cho (tcP L l ids ids.length) n).length
        have HTN : Hid (TbV (w5.setCell ⟨w1.heap.size, k, none⟩ (.slice v m5 m5)) w1.heap.size C.length 25 (rwV n (csl C) l ids (fun y => if y = k then v else vs y) (k + 1))) := (HT5.out.set k _).congr (fun j _ => by
         have := HRN.out v j
         rw [HTL.out, HM5.out] at this
         exact this)
        have HBN : Hid (Below w1.heap.size w1 (w5.setCell ⟨w1.heap.size, k, none⟩ (.slice v m5 m5))) := HB5.out.setCell (p := ⟨w1.heap.size, k, none⟩) (Nat.le_refl _) _
        have HRO : Hid (∀ j, j < k + 1 → RowI (w5.setCell ⟨w1.heap.size, k, none⟩ (.slice v m5 m5)) (w1.heap.size + 1) ((fun y => if y = k then v else vs y) j) (ints (tcL n (lvl (csl C) j) l ids))) := fun j hj2 => by
         refine RowI.set ?_ (Nat.lt_succ_self _) _ _
         by_cases e : j = k
         ·subst e
          rw [csl_at, HLL.out]
          simp only [if_true]
          exact hrow5.base (by omega)
         ·simp only [e, if_false]
          exact (HRR2.out j (by omega)).on hbV5
        rw [HM5.out]
        clear hrow5 hb5 hbV5 HT4 HG4 i0 HTR HRR2
        go_wp2_with fail
        exact ⟨⟨k + 1, _, by omega, by simp, HTN, HRO, HBN⟩, by simp [intOf]; omega⟩
      ·obtain rfl : k = C.length := by omega
       have hlk' : ¬ (C.length : Int) < C.length := by omega
       have HFIN := hid (stC_rws hn8 HTR.out HRR2.out)
       have HBF : Hid (Below p w wr) := HB1.out.trans (HBR.out.mono (by omega))
       clear HTR HRR2
       go_wp2_with fail
       go_ret2
       first | exact ⟨⟨w1.heap.size, vs, rfl, HFIN.out⟩, HBF.out⟩ | exact ⟨(fun _ => ⟨w1.heap.size, vs, rfl, HFIN.out⟩), (fun h => absurd rfl h), HBF.out⟩ | exact ⟨⟨w1.heap.size, rfl, vs, HFIN.out⟩, HBF.out⟩
 ·have e1 : (E != 0) = true := by simpa using hE
  obtain rfl : S = E := by rw [HST.out, if_pos hE]
  go_wp2_with fail
  go_ret2
  first | exact ⟨rfl, HB1.out⟩ | exact ⟨(fun h => absurd h hE), (fun _ => rfl), HB1.out⟩
set_option maxHeartbeats 3200000 in
theorem up_any (N : Int) (a : Option Addr) (l : List A) (cap : Nat) (ba : Option Addr) (bs : List Int) (bc : Nat) (ca : Option Addr) (C : List Cl) (cc : Nat) (lv ce ep : Int) (wa : Option Addr) (ws : List Int) (wk : Nat) (ma : Option Addr) (M : List Mt) (mc : Nat) (w : World) (hl : l.length ≤ 9223372036854775807) (hbl : bs.length ≤ 9223372036854775807) (hr : Arcs w a l) (hi : Ints w ba bs) (hR : Rws w ca C) (hW : Wts w wa ws) (hws : ∀ i, i < ws.length → 0 ≤ ws.getD i 0 ∧ ws.getD i 0 < 4294967296) (hM : Mts w ma M) :
  Calls Tryz.prog 20 #[.agg #[.int .i64 N, .slice a l.length cap], .agg #[.slice ba bs.length bc, .slice ca C.length cc], .int .i64 lv, .int .i64 ce, .int .i64 ep, .slice wa ws.length wk, .slice ma M.length mc] w fun e w' => ((upE N l bs (csl C) lv ce ep ws.length M) = 0 → (∃ v c, e = .returned (.tuple #[.agg #[.int .i64 lv, .int .i64 ce, .int .i64 ep, .slice v (mxL (upL N l bs (csl C) lv ce ws M) (bdV N l bs (csl C) lv ce)).length c], .int .i64 0]) ∧ w'.ownsRow w.heap.size 48 1 (.slice v (mxL (upL N l bs (csl C) lv ce ws M) (bdV N l bs (csl C) lv ce)).length c) (mxL (upL N l bs (csl C) lv ce ws M) (bdV N l bs (csl C) lv ce)).length (cellsU (mxL (upL N l bs (csl C) lv ce ws M) (bdV N l bs (csl C) lv ce))) ∧ ∀ i, i < (bdV N l bs (csl C) lv ce).length → N5.IsD ((upL N l bs (csl C) lv ce ws M).map toN) (fun _ => true) ((bdV N l bs (csl C) lv ce).getD i 0) (dF (upL N l bs (csl C) lv ce ws M) ((bdV N l bs (csl C) lv ce).getD i 0)))) ∧ ((upE N l bs (csl C) lv ce ep ws.length M) ≠ 0 → e = .returned (.tuple #[.agg #[.int .i64 0, .int .i64 0, .int .i64 0, .slice none 0 0], .int .i64 (upE N l bs (csl C) lv ce ep ws.length M)])) ∧ Below w.heap.size w w' := by
 obtain ⟨hg0, hg1, hg2, hb0, hsz⟩ := top3 w (.cells #[.int .i64 N, .slice a l.length cap] 24) (.cells #[.slice ba bs.length bc, .slice ca C.length cc] 28) (.cells #[.int .i64 0, .int .i64 0, .int .i64 0, .slice none 0 0] 40)
 obtain ⟨⟨a0, a1⟩, _⟩ := two_cells hg0
 obtain ⟨⟨a2, a3⟩, _⟩ := two_cells hg1
 have HBY := hid (byChildren_any N a l cap ba bs bc ca C cc lv ce ep wa ws wk ma M mc _ hl hbl (hr.on hb0) (hi.on hb0) (hR.on hb0) (hW.on hb0) hws (hM.on hb0))
 have HB0 := hid hb0
 have HG2 := hid hg2
 obtain ⟨B, HBB⟩ := named (upE N l bs (csl C) lv ce ep ws.length M)
 obtain ⟨X, HX⟩ := named (mxL (upL N l bs (csl C) lv ce ws M) (bdV N l bs (csl C) lv ce))
 obtain ⟨wl', HWL⟩ := named (upL N l bs (csl C) lv ce ws M)
 rw [HBB.out] at HBY
 rw [HBB.out]
 rw [HX.out, HWL.out] at HBY
 rw [HX.out, HWL.out]
 clear hr hi hR hW hws hM hb0 hg0 hg1 hg2
 generalize hp : w.heap.size = p at *
 go_enter Tryz.func20, Tryz.ntmps20
 go_wp2_with fail
 generalize hWW : (((w.alloc (.cells #[.int .i64 N, .slice a l.length cap] 24)).alloc (.cells #[.slice ba bs.length bc, .slice ca C.length cc] 28)).alloc (.cells #[.int .i64 0, .int .i64 0, .int .i64 0, .slice none 0 0] 40)) = W at *
 clear hWW
 refine HBY.out.mono ?_
 rintro e w5 ⟨hok, hno, hb5⟩
 have hK5 := (hb5.block (p + 1 + 1) (by omega)).trans HG2.out
 obtain ⟨⟨d0, d1, d2, d3⟩, f0, f1, f2, f3⟩ := four_cells hK5
 by_cases h : B = 0
 ·subst h
  obtain ⟨v, c, rfl, hown, hD⟩ := hok rfl
  have HR5 := hid (four_cells (set4 hK5 (.int .i64 lv) (.int .i64 ce) (.int .i64 ep) (.slice v X.length c))).1
  have HO5 := hid (own_base (own_set4 hown (show p + 1 + 1 < W.heap.size by omega) (.int .i64 lv) (.int .i64 ce) (.int .i64 ep) (.slice v X.length c)) (show p ≤ W.heap.size by omega))
  have HB5 := hid (below_set4 (HB0.out.trans (hb5.mono (by omega))) (show p ≤ p + 1 + 1 by omega) (.int .i64 lv) (.int .i64 ce) (.int .i64 ep) (.slice v X.length c))
  have HD5 := hid hD
  clear hK5 hown hD hb5 HBY hok hno a0 a1 a2 a3
  go_wp2_with fail
  obtain ⟨r0, r1, r2, r3⟩ := HR5.out
  refine bodyPost_ret (v := .tuple #[.agg #[.int .i64 lv, .int .i64 ce, .int .i64 ep, .slice v X.length c], .int .i64 0]) (by simp [results, Tryz.results20, go_sem, r0, r1, r2, r3]) rfl ?_
  first | exact ⟨⟨v, c, rfl, HO5.out, HD5.out⟩, HB5.out⟩ | exact ⟨fun _ => ⟨v, c, rfl, HO5.out, HD5.out⟩, fun h => absurd rfl h, HB5.out⟩
 ·obtain rfl := hno h
  have HR5 := hid (four_cells (set4 hK5 (.int .i64 0) (.int .i64 0) (.int .i64 0) (.slice none 0 0))).1
  have HB5 := hid (below_set4 (HB0.out.trans (hb5.mono (by omega))) (show p ≤ p + 1 + 1 by omega) (.int .i64 0) (.int .i64 0) (.int .i64 0) (.slice none 0 0))
  clear hK5 hb5 HBY hok hno a0 a1 a2 a3
  go_wp2_with fail
  obtain ⟨r0, r1, r2, r3⟩ := HR5.out
  refine bodyPost_ret (v := .tuple #[.agg #[.int .i64 0, .int .i64 0, .int .i64 0, .slice none 0 0], .int .i64 B]) (by simp [results, Tryz.results20, go_sem, r0, r1, r2, r3]) rfl ?_
  exact ⟨fun h' => absurd h' h, fun _ => rfl, HB5.out⟩
theorem stE_nil (N : Int) (l : List A) (bs : List Int) (cs : List (List Int)) : stE N l bs cs [] = nsE N l bs cs := by
 unfold stE
 split
 ·rfl
 ·rename_i h
  rw [if_neg (by simp), if_pos (by simp)]
  exact (Classical.byContradiction fun e => h (fun e2 => e e2.symm))
end Go.Proofs.YtaafkpojjdjphaaGreat
namespace Go.Proofs.YtaafkpojjdjphaaGreat
open Go.RowKit
open N5 (Wk IsD src dst sat Inf)
theorem wk_end {l : List N5.A} {ok : Nat → Bool} {s v : Nat} {d : Int} (h : Wk l ok s v d) : ok v = true := by
 cases h with
 | nil e => exact e
 | snoc _ _ e => exact e
theorem wk_cat {l : List N5.A} {ok om : Nat → Bool} {s b v : Nat} {d e : Int} (h : Wk l ok s b d) (ho : ∀ x ∈ l, om (dst x) = true → ok (dst x) = true) (h2 : Wk l om b v e) : Wk l ok s v (d + e) := by
 induction h2 with
 | nil _ => rw [Int.add_zero]; exact h
 | snoc hx _ e ih =>
   rw [← Int.add_assoc]
   exact Wk.snoc hx ih (ho _ hx e)
structure Upr (l r : List N5.A) (n : Nat) (ok : Nat → Bool) (ch : Nat → Int) (bd : Nat → Prop) (D : Nat → Nat → Int) : Prop where
 wt : ∀ x ∈ l, 0 ≤ x.w
 en : ∀ x ∈ l, src x < n ∧ dst x < n
 ds : ∀ b, bd b → b < n ∧ IsD l (fun v => decide (ch v = ch b)) b (D b)
 ne : ∀ u v, u < n → v < n → ch u = ch v → ok u = ok v
 be : ∀ x ∈ l, ok (src x) = true → ok (dst x) = true → ch (src x) ≠ ch (dst x) → bd (src x) ∧ bd (dst x) ∧ x ∈ r
 ro : ∀ b v, bd b → bd v → ok b = true → ch b = ch v → D b v < Inf → ∃ x ∈ r, src x = b ∧ dst x = v ∧ x.w = D b v
 ex : ∀ x ∈ r, ok (src x) = true ∧ ok (dst x) = true ∧ (x ∈ l ∨ bd (src x) ∧ ch (src x) = ch (dst x) ∧ x.w = D (src x) (dst x) ∧ x.w < Inf)
theorem Upr.le {l r : List N5.A} {n : Nat} {ok : Nat → Bool} {ch : Nat → Int} {bd : Nat → Prop} {D : Nat → Nat → Int} (u : Upr l r n ok ch bd D) {s : Nat} (hs : bd s) {v : Nat} {d : Int} (h : Wk l ok s v d) : Inf ≤ d ∨ ∃ b d1 d2, bd b ∧ ok b = true ∧ ch b = ch v ∧ Wk r (fun _ => true) s b d1 ∧ Wk l (fun w => decide (ch w = ch b)) b v d2 ∧ d1 + d2 ≤ d ∧ 0 ≤ d1 ∧ 0 ≤ d2 := by
 induction h with
 | nil e => exact Or.inr ⟨s, 0, 0, hs, e, rfl, Wk.nil rfl, Wk.nil (by simp), by omega, by omega, by omega⟩
 | snoc hx hp ho ih =>
   rename_i x d
   have h0 := u.wt _ hx
   rcases ih with h1 | ⟨b, d1, d2, b1, b2, b3, k1, k2, k3, k4, k5⟩
   ·exact Or.inl (by omega)
   ·by_cases hc : ch (src x) = ch (dst x)
    ·exact Or.inr ⟨b, d1, d2 + x.w, b1, b2, b3.trans hc, k1, Wk.snoc hx k2 (decide_eq_true (b3.trans hc).symm), by omega, k4, by omega⟩
    ·obtain ⟨c1, c2, c3⟩ := u.be _ hx (wk_end hp) ho hc
     obtain ⟨_, hD⟩ := u.ds b b1
     have hle := hD.le _ _ k2
     have hlo := hD.lo (src x)
     by_cases hi : D b (src x) < Inf
     ·obtain ⟨y, y1, y2, y3, y4⟩ := u.ro b (src x) b1 c1 b2 b3 hi
      have k6 : Wk r (fun _ => true) s (dst y) (d1 + y.w) := Wk.snoc y1 (y2.symm ▸ k1) rfl
      rw [y3, y4] at k6
      exact Or.inr ⟨dst x, d1 + D b (src x) + x.w, 0, c2, ho, rfl, Wk.snoc c3 k6 rfl, Wk.nil (by simp), by omega, by omega, by omega⟩
     ·exact Or.inl (by omega)
theorem Upr.eq {l r : List N5.A} {n : Nat} {ok : Nat → Bool} {ch : Nat → Int} {bd : Nat → Prop} {D : Nat → Nat → Int} (u : Upr l r n ok ch bd D) {s t : Nat} (hs : bd s) (os : ok s = true) (ht : bd t) {F G : Nat → Int} (hF : IsD r (fun _ => true) s F) (hG : IsD l ok s G) : F t = G t := by
 have h1 : ∀ v d, Wk r (fun _ => true) s v d → Wk l ok s v d := fun v d h => by
  induction h with
  | nil _ => exact Wk.nil os
  | snoc hx _ _ ih =>
    rename_i x d _ _
    obtain ⟨o1, o2, e | ⟨e1, e2, e3, e4⟩⟩ := u.ex _ hx
    ·exact Wk.snoc e ih o2
    ·obtain ⟨hn, hD⟩ := u.ds _ e1
     rw [e3] at e4 ⊢
     refine wk_cat ih (fun y hy h => ?_) (hD.wk _ e4)
     rw [← u.ne (src x) (dst y) hn (u.en y hy).2 (of_decide_eq_true h).symm]
     exact o1
 have a : G t ≤ F t := by
  by_cases e : F t < Inf
  ·exact hG.le _ _ (h1 _ _ (hF.wk t e))
  ·have := hG.hi t
   omega
 have b : F t ≤ G t := by
  by_cases e : G t < Inf
  ·rcases u.le hs (hG.wk t e) with h | ⟨b, d1, d2, b1, b2, b3, k1, k2, k3, k4, k5⟩
   ·omega
   ·obtain ⟨_, hD⟩ := u.ds b b1
    have hle := hD.le _ _ k2
    obtain ⟨y, y1, y2, y3, y4⟩ := u.ro b t b1 ht b2 b3 (by omega)
    have k6 : Wk r (fun _ => true) s (dst y) (d1 + y.w) := Wk.snoc y1 (y2.symm ▸ k1) rfl
    rw [y3, y4] at k6
    have := hF.le _ _ k6
    omega
  ·have := hF.hi t
   omega
 omega
end Go.Proofs.YtaafkpojjdjphaaGreat
